/-
  The contract of replace. Conditions: the front lies in memory as told; the bunch lies in its row.
-/
import Derived.Test.YtdkchihomllokaaAb9
namespace Go.Proofs.Ytdkchihomllokaa
open Go.RowKit
set_option linter.unusedVariables false
set_option maxRecDepth 20000

theorem b_al {w : World} (o : Obj) : Below w.heap.size w (w.alloc o) := (Below.refl _ _).alloc (Nat.le_refl _) _
theorem b_dr {w : World} : Below w.heap.size w w.drew := (Below.refl _ _).drew
theorem owns_below' {w w' : World} {base : Nat} {e : TypeId} {size : Nat} {v : Value} {n : Nat} {xs : List Value} (h : w.ownsRow base e size v n xs) (hb : Below w.heap.size w w') : w'.ownsRow base e size v n xs :=
  owns_keep h fun g hg => hb.block g (h.lt g hg).2
/-- what is left as it was by one that writes into some blocks, from B on, and lays new memory -/
structure Bz (B : Nat) (S : Nat → Prop) (w w' : World) : Prop where
  bel : Below B w w'
  size : w.heap.size ≤ w'.heap.size
  far : ∀ i, i < w.heap.size → ¬ S i → w'.heap[i]? = w.heap[i]?
theorem Bz.of {B : Nat} {S : Nat → Prop} {w w' : World} (h : Below w.heap.size w w') (hB : B ≤ w.heap.size) : Bz B S w w' := ⟨h.mono hB, h.size, fun i hi _ => h.block i hi⟩
theorem Bz.trans {B : Nat} {S : Nat → Prop} {w w' w'' : World} (h : Bz B S w w') (k : Bz B S w' w'') : Bz B S w w'' :=
  ⟨h.bel.trans k.bel, Nat.le_trans h.size k.size, fun i hi hs => by rw [k.far i (Nat.lt_of_lt_of_le hi h.size) hs, h.far i hi hs]⟩
theorem Bz.mono {B : Nat} {S S' : Nat → Prop} {w w' : World} (h : Bz B S w w') (hS : ∀ i, S i → S' i) : Bz B S' w w' := ⟨h.bel, h.size, fun i hi hs => h.far i hi fun h' => hs (hS i h')⟩
theorem Bz.grown {B : Nat} {S : Nat → Prop} {w w' : World} {r : Option Nat} (h : w.grownBy w' r) (hS : ∀ g, r = some g → S g ∧ B ≤ g) (hB2 : B ≤ w.heap.size) : Bz B S w w' :=
  ⟨⟨h.os, h.tape, h.output, h.size, fun i hi => h.block i (by omega) (fun e => by have := (hS i e.symm).2; omega)⟩, h.size, fun i hi hs => h.block i hi (fun e => hs (hS i e.symm).1)⟩
theorem Bz.set {B : Nat} {S : Nat → Prop} {w : World} {p : Addr} (hS : S p.block) (hB : B ≤ p.block) (hB2 : B ≤ w.heap.size) (v : Value) : Bz B S w (w.setCell p v) :=
  ⟨(Below.refl _ _).setCell hB _, by simp [World.setCell], fun i hi hs => Below.heap_setCell _ _ _ _ (fun e => hs (e ▸ hS))⟩
theorem box_set {w : World} {b : Nat} {x y z u v : Value} {t : TypeId} (h : w.heap[b]? = some (.cells #[x, y, z, u] t (0, 0))) : (w.setCell ⟨b, 0, none⟩ v).heap[b]? = some (.cells #[v, y, z, u] t (0, 0)) := by
  simp [World.setCell, Array.getElem?_modify, h]
theorem box_set3 {w : World} {b : Nat} {x y z u v : Value} {t : TypeId} (h : w.heap[b]? = some (.cells #[x, y, z, u] t (0, 0))) : (w.setCell ⟨b, 3, none⟩ v).heap[b]? = some (.cells #[x, y, z, v] t (0, 0)) := by
  simp [World.setCell, Array.getElem?_modify, h]
theorem box_set2 {w : World} {b : Nat} {x y z u v : Value} {t : TypeId} (h : w.heap[b]? = some (.cells #[x, y, z, u] t (0, 0))) : (w.setCell ⟨b, 2, none⟩ v).heap[b]? = some (.cells #[x, y, v, u] t (0, 0)) := by
  simp [World.setCell, Array.getElem?_modify, h]

/-- what ended, and the front with its new row -/
def RepTold (N b V : Nat) (s : Fs) (pv : Value) (pl : List Nat) (ends row2 : List It) (w w' : World) (e : Ending) : Prop :=
  ∃ v ra' rc', e = .returned v ∧ w'.ownsRow w.heap.size 72 3 v ends.length (icells ends) ∧ Fb N w' b V s ra' rc' row2 pv pl ∧ (∀ g off, ra' = some ⟨g, off, none⟩ → w.heap.size ≤ g) ∧ ra' ≠ none

set_option maxHeartbeats 8000000 in
theorem replace_any (w : World) (N b V : Nat) (s : Fs) (ra : Option Addr) (rc : Nat) (row : List It) (pv : Value) (pl : List Nat) (hF : Fb N w b V s ra rc row pv pl) (hN : N ≤ w.heap.size) (hd ct : Int) (lo hi : Nat) (hlh : lo ≤ hi) (hhi : hi ≤ row.length) (hrr : row = [] → ra = none) (hl2 : row ≠ [] → lo < hi)
    (xa : Option Addr) (xc : Nat) (its : List It) (hX : Is w xa its) (hxn : xa = none → its.length = 0 ∧ xc = 0) (hx0 : 0 < its.length) (hxl : its.length ≤ 200) (htot : lo + its.length + (row.length - hi) ≤ 400) :
    Calls Try.prog 37 #[.pointer (some ⟨b, 0, none⟩), .agg #[.int .i64 hd, .int .i64 ct, .int .i64 (lo : Nat), .int .i64 (hi : Nat)], .slice xa its.length xc] w fun e w' =>
      RepTold N b V s pv pl ((row.take hi).drop lo) (row.take lo ++ (its ++ row.drop hi)) w w' e ∧ Bz (min b N) (· = b) w w' := by
  obtain ⟨c0, c1, c2, c3⟩ := hF.cells
  have hbl := hF.lt
  have hsm := hF.small
  have hrc := hF.rcap
  obtain ⟨n, hn⟩ : ∃ n, row.length = n := ⟨_, rfl⟩
  have HF := hide hF
  have HX := hide hX
  have hb0 : Below w.heap.size w (w.alloc (.cells #[.int .i64 hd, .int .i64 ct, .int .i64 (lo : Nat), .int .i64 (hi : Nat)] 79)) := (Below.refl _ _).alloc (Nat.le_refl _) _
  have hF0 := hF.below hb0
  have hX0 := hX.below hb0
  obtain ⟨W, hW⟩ : ∃ W, w.alloc (.cells #[.int .i64 hd, .int .i64 ct, .int .i64 (lo : Nat), .int .i64 (hi : Nat)] 79) = W := ⟨_, rfl⟩
  have hbx : W.heap[w.heap.size]? = some (.cells #[.int .i64 hd, .int .i64 ct, .int .i64 (lo : Nat), .int .i64 (hi : Nat)] 79 (0, 0)) := by subst hW; exact (MapKept.heap_alloc _ _).1
  have hWs : W.heap.size = w.heap.size + 1 := by subst hW; simp
  rw [hW] at hb0 hF0 hX0
  have HB0 := hide hb0
  have HF0 := hide hF0
  have HX0 := hide hX0
  have HBX := hide hbx
  have HWS := hide hWs
  by_cases hrow : row = []
  · skip
    have hra := hrr hrow
    subst hra
    subst hrow
    have hrc0 : rc = 0 := (hF.rno rfl).2
    subst hrc0
    have hlo0 : lo = 0 := by simp at hhi; omega
    have hhi0 : hi = 0 := by simpa using hhi
    subst hlo0
    subst hhi0
    have hn' : n = 0 := by rw [← hn]; rfl
    subst hn'
    change Calls Try.prog 37 #[.pointer (some ⟨b, 0, none⟩), .agg #[.int .i64 hd, .int .i64 ct, .int .i64 0, .int .i64 0], .slice xa its.length xc] w _
    change W.heap[w.heap.size]? = some (.cells #[.int .i64 hd, .int .i64 ct, .int .i64 0, .int .i64 0] 79 (0, 0)) at hbx
    change w.alloc (.cells #[.int .i64 hd, .int .i64 ct, .int .i64 0, .int .i64 0] 79) = W at hW
    replace HBX := hide hbx
    have q0 : W.cell? ⟨b, 0, none⟩ = some (.slice none 0 0) := hF0.cells.1
    have HN := hide hn
    have hS : W.cell? ⟨b, 0, none⟩ = some (.slice none 0 0) ∧ W.cell? ⟨w.heap.size, 2, none⟩ = some (.int .i64 0) ∧ W.cell? ⟨w.heap.size, 3, none⟩ = some (.int .i64 0) := ⟨q0, by simp only [World.cell?, hbx]; rfl, by simp only [World.cell?, hbx]; rfl⟩
    clear hF0 hF hn q0 hbx c0 c1 c2 c3 hb0 hX0 hX hWs
    go_enter Try.func37, Try.ntmps37
    go_wp2_with fail
    try rw [hW]
    refine wp_region_held_drew (S := fun u => u.cell? ⟨b, 0, none⟩ = some (.slice none 0 0) ∧ u.cell? ⟨w.heap.size, 2, none⟩ = some (.int .i64 0) ∧ u.cell? ⟨w.heap.size, 3, none⟩ = some (.int .i64 0)) (by kernel_rfl) hS (fun hS0 => ?_)
    have CC2 := hide (show Calls Try.prog 30 #[.slice none 0 0] W.drew _ from cloneI_any W.drew none 0 0 [] (Cr.nil _ _ _) (by simp) (fun _ => ⟨rfl, rfl⟩) (by omega))
    have HF1 := hide ((unhide HF0).below b_dr)
    have HX1 := hide ((unhide HX0).below b_dr)
    have HB1 := hide ((unhide HB0).drew)
    have HBX1 := hide (show W.drew.heap[w.heap.size]? = _ from unhide HBX)
    have HWS1 := hide (show W.drew.heap.size = _ from unhide HWS)
    clear HF0 HX0 HB0 HBX HWS hS hW
    generalize W.drew = W1 at hS0 CC2 HF1 HX1 HB1 HBX1 HWS1 ⊢
    clear W
    refine wpAnyH_take (i := 0) (v := ?_) rfl (by kernel_rfl) (by kernel_rfl) (by kernel_rfl) (fun _ _ _ h => h) (Or.inl ⟨by rfl, ?_⟩) hS0 ?_
    rotate_left
    · intro u hu; (try dsimp only at hu); go_simp; try with_reducible rfl
    simp only [Act.put, List.getElem_toArray, List.getElem_cons_zero, List.setIfInBounds_toArray, List.set_cons_zero, List.set_cons_succ]
    refine wpAnyH_take (i := 1) (v := ?_) rfl (by kernel_rfl) (by kernel_rfl) (by kernel_rfl) (fun _ _ _ h => h) (Or.inl ⟨by rfl, ?_⟩) hS0 ?_
    rotate_left
    · intro u hu; (try dsimp only at hu); go_simp; try with_reducible rfl
    simp only [Act.put, List.getElem_toArray, List.getElem_cons_zero, List.getElem_cons_succ, List.setIfInBounds_toArray, List.set_cons_zero, List.set_cons_succ]
    refine wpAnyH_take (i := 2) (v := ?_) rfl (by kernel_rfl) (by kernel_rfl) (by kernel_rfl) (fun _ _ _ h => h) (Or.inl ⟨by rfl, ?_⟩) hS0 ?_
    rotate_left
    · intro u hu; (try dsimp only at hu); go_simp; try with_reducible rfl
    simp only [Act.put, List.getElem_toArray, List.getElem_cons_zero, List.getElem_cons_succ, List.setIfInBounds_toArray, List.set_cons_zero, List.set_cons_succ]
    refine wpAnyH_take (i := 3) (v := ?_) rfl (by kernel_rfl) (by kernel_rfl) (by kernel_rfl) (fun _ _ _ h => h) (Or.inl ⟨by rfl, ?_⟩) hS0 ?_
    rotate_left
    · intro u hu; (try dsimp only at hu); go_simp; try with_reducible rfl
    simp only [Act.put, List.getElem_toArray, List.getElem_cons_zero, List.getElem_cons_succ, List.setIfInBounds_toArray, List.set_cons_zero, List.set_cons_succ]
    refine wpAnyH_take (i := 4) (v := ?_) rfl (by kernel_rfl) (by kernel_rfl) (by kernel_rfl) (fun _ _ _ h => h) (Or.inl ⟨by rfl, ?_⟩) hS0 ?_
    rotate_left
    · intro u hu; (try dsimp only at hu); go_simp; try with_reducible rfl
    simp only [Act.put, List.getElem_toArray, List.getElem_cons_zero, List.getElem_cons_succ, List.setIfInBounds_toArray, List.set_cons_zero, List.set_cons_succ]
    refine wpAnyH_take (i := 5) (v := ?_) rfl (by kernel_rfl) (by kernel_rfl) (by kernel_rfl) (fun _ _ _ h => h) (Or.inl ⟨by rfl, ?_⟩) hS0 ?_
    rotate_left
    · intro u hu; (try dsimp only at hu); go_simp; try with_reducible rfl
    simp only [Act.put, List.getElem_toArray, List.getElem_cons_zero, List.getElem_cons_succ, List.setIfInBounds_toArray, List.set_cons_zero, List.set_cons_succ]
    refine wpAnyH_take (i := 6) (v := ?_) rfl (by kernel_rfl) (by kernel_rfl) (by kernel_rfl) (fun _ _ _ h => h) (Or.inl ⟨by rfl, ?_⟩) hS0 ?_
    rotate_left
    · intro u hu; (try dsimp only at hu); go_simp; try with_reducible rfl
    simp only [Act.put, List.getElem_toArray, List.getElem_cons_zero, List.getElem_cons_succ, List.setIfInBounds_toArray, List.set_cons_zero, List.set_cons_succ]
    refine wpAnyH_take (i := 7) (v := ?_) rfl (by kernel_rfl) (by kernel_rfl) (by kernel_rfl) (fun _ _ _ h => h) (Or.inl ⟨by rfl, ?_⟩) hS0 ?_
    rotate_left
    · intro u hu; (try dsimp only at hu); go_simp; try with_reducible rfl
    simp only [Act.put, List.getElem_toArray, List.getElem_cons_zero, List.getElem_cons_succ, List.setIfInBounds_toArray, List.set_cons_zero, List.set_cons_succ]
    refine wpAnyH_take (i := 8) (v := ?_) rfl (by kernel_rfl) (by kernel_rfl) (by kernel_rfl) (fun _ _ _ h => h) (Or.inl ⟨by rfl, ?_⟩) hS0 ?_
    rotate_left
    · intro u hu; (try dsimp only at hu); go_simp; try with_reducible rfl
    simp only [Act.put, List.getElem_toArray, List.getElem_cons_zero, List.getElem_cons_succ, List.setIfInBounds_toArray, List.set_cons_zero, List.set_cons_succ]
    refine wpAnyH_ready (rs := [9]) (by kernel_rfl) (by simp) ?_
    refine AllReadyH.cons rfl (fun K hK => ?_) AllReadyH.nil
    go_simp
    refine (unhide CC2).mono ?_
    rintro e w2 ⟨⟨v, rfl, ho⟩, hb2⟩
    have HO := hide ho
    have hF2 := (unhide HF1).below hb2
    have hbx2 : w2.heap[w.heap.size]? = some (.cells #[.int .i64 hd, .int .i64 ct, .int .i64 0, .int .i64 0] 79 (0, 0)) := by rw [hb2.block _ (by rw [unhide HWS1]; omega)]; exact unhide HBX1
    have hsw2 : w.heap.size + 1 ≤ w2.heap.size := by have := hb2.size; rw [unhide HWS1] at this; exact this
    have hB2 : Below w.heap.size w w2 := (unhide HB1).trans (hb2.mono (by rw [unhide HWS1]; omega))
    have hX2 := (unhide HX1).below hb2
    have HOB := hide (show w2.ownsRow w.heap.size 72 3 v 0 (icells []) from owns_mono ho (by rw [unhide HWS1]; omega))
    have q2 : w2.cell? ⟨b, 0, none⟩ = some (.slice none 0 0) := hF2.cells.1
    have p2 : w2.cell? ⟨w.heap.size, 2, none⟩ = some (.int .i64 0) := by simp only [World.cell?, hbx2]; rfl
    have p3 : w2.cell? ⟨w.heap.size, 3, none⟩ = some (.int .i64 0) := by simp only [World.cell?, hbx2]; rfl
    refine hK.out _ _ ⟨q2, p2, p3⟩ (fun hS2 => ?_)
    clear hK K hS0 ho hb2 CC2 HX1 HF1 HBX1 HWS1 HB1 HO
    refine wpAnyH_take (i := 10) (v := ?_) rfl (by kernel_rfl) (by kernel_rfl) (by kernel_rfl) (fun _ _ _ h => h) (Or.inl ⟨by rfl, ?_⟩) hS2 ?_
    rotate_left
    · intro u hu; (try dsimp only at hu); go_simp; try with_reducible rfl
    simp only [Act.put, List.getElem_toArray, List.getElem_cons_zero, List.getElem_cons_succ, List.setIfInBounds_toArray, List.set_cons_zero, List.set_cons_succ]
    refine wpAnyH_done (by kernel_rfl) ?_ _
    have hfz : w2.frozen? ⟨b, 0, none⟩ = false := hF2.fz 0
    have HF2 := hide hF2
    have HX2 := hide hX2
    have HB2 := hide hB2
    have HBX2 := hide hbx2
    clear hF2 hX2 hB2 hbx2 hS2
    go_wp2_with fail
    refine wp_region_held_drew (S := fun u => u.cell? ⟨w.heap.size, 2, none⟩ = some (.int .i64 0) ∧ u.cell? ⟨w.heap.size, 3, none⟩ = some (.int .i64 0)) (by kernel_rfl) ⟨p2, p3⟩ (fun hS0 => ?_)
    have HF3 := hide ((unhide HF2).below b_dr)
    have HX3 := hide ((unhide HX2).below b_dr)
    have HB3 := hide ((unhide HB2).drew)
    have HBX3 := hide (show w2.drew.heap[w.heap.size]? = _ from unhide HBX2)
    have HOB3 := hide (show w2.drew.ownsRow _ _ _ _ _ _ from unhide HOB)
    have hsw3 : w.heap.size + 1 ≤ w2.drew.heap.size := hsw2
    have q3 : w2.drew.cell? ⟨b, 0, none⟩ = some (.slice none 0 0) := q2
    clear HF2 HX2 HB2 HBX2 HOB p2 p3 hfz q2 hsw2
    generalize w2.drew = w3 at hS0 HF3 HX3 HB3 HBX3 HOB3 hsw3 q3 ⊢
    clear w2
    refine wpAnyH_take (i := 0) (v := ?_) rfl (by kernel_rfl) (by kernel_rfl) (by kernel_rfl) (fun _ _ _ h => h) (Or.inl ⟨by rfl, ?_⟩) hS0 ?_
    rotate_left
    · intro u hu; (try dsimp only at hu); go_simp; try with_reducible rfl
    simp only [Act.put, List.getElem_toArray, List.getElem_cons_zero, List.setIfInBounds_toArray, List.set_cons_zero, List.set_cons_succ]
    refine wpAnyH_take (i := 1) (v := ?_) rfl (by kernel_rfl) (by kernel_rfl) (by kernel_rfl) (fun _ _ _ h => h) (Or.inl ⟨by rfl, ?_⟩) hS0 ?_
    rotate_left
    · intro u hu; (try dsimp only at hu); go_simp; try with_reducible rfl
    simp only [Act.put, List.getElem_toArray, List.getElem_cons_zero, List.getElem_cons_succ, List.setIfInBounds_toArray, List.set_cons_zero, List.set_cons_succ]
    refine wpAnyH_take (i := 2) (v := ?_) rfl (by kernel_rfl) (by kernel_rfl) (by kernel_rfl) (fun _ _ _ h => h) (Or.inl ⟨by rfl, ?_⟩) hS0 ?_
    rotate_left
    · intro u hu; (try dsimp only at hu); go_simp; try with_reducible rfl
    simp only [Act.put, List.getElem_toArray, List.getElem_cons_zero, List.getElem_cons_succ, List.setIfInBounds_toArray, List.set_cons_zero, List.set_cons_succ]
    refine wpAnyH_take (i := 3) (v := ?_) rfl (by kernel_rfl) (by kernel_rfl) (by kernel_rfl) (fun _ _ _ h => h) (Or.inl ⟨by rfl, ?_⟩) hS0 ?_
    rotate_left
    · intro u hu; (try dsimp only at hu); go_simp; try with_reducible rfl
    simp only [Act.put, List.getElem_toArray, List.getElem_cons_zero, List.getElem_cons_succ, List.setIfInBounds_toArray, List.set_cons_zero, List.set_cons_succ]
    refine wpAnyH_take (i := 5) (v := ?_) rfl (by kernel_rfl) (by kernel_rfl) (by kernel_rfl) (fun _ _ _ h => h) (Or.inl ⟨by rfl, ?_⟩) hS0 ?_
    rotate_left
    · intro u hu; (try dsimp only at hu); go_simp; try with_reducible rfl
    simp only [Act.put, List.getElem_toArray, List.getElem_cons_zero, List.getElem_cons_succ, List.setIfInBounds_toArray, List.set_cons_zero, List.set_cons_succ]
    refine wpAnyH_take (i := 6) (v := ?_) rfl (by kernel_rfl) (by kernel_rfl) (by kernel_rfl) (fun _ _ _ h => h) (Or.inl ⟨by rfl, ?_⟩) hS0 ?_
    rotate_left
    · intro u hu; (try dsimp only at hu); go_simp; try with_reducible rfl
    simp only [Act.put, List.getElem_toArray, List.getElem_cons_zero, List.getElem_cons_succ, List.setIfInBounds_toArray, List.set_cons_zero, List.set_cons_succ]
    refine wpAnyH_take (i := 8) (v := ?_) rfl (by kernel_rfl) (by kernel_rfl) (by kernel_rfl) (fun _ _ _ h => h) (Or.inl ⟨by rfl, ?_⟩) hS0 ?_
    rotate_left
    · intro u hu; (try dsimp only at hu); go_simp; try with_reducible rfl
    simp only [Act.put, List.getElem_toArray, List.getElem_cons_zero, List.getElem_cons_succ, List.setIfInBounds_toArray, List.set_cons_zero, List.set_cons_succ]
    refine wpAnyH_take (i := 9) (v := ?_) rfl (by kernel_rfl) (by kernel_rfl) (by kernel_rfl) (fun _ _ _ h => h) (Or.inl ⟨by rfl, ?_⟩) hS0 ?_
    rotate_left
    · intro u hu; (try dsimp only at hu); go_simp; try with_reducible rfl
    simp only [Act.put, List.getElem_toArray, List.getElem_cons_zero, List.getElem_cons_succ, List.setIfInBounds_toArray, List.set_cons_zero, List.set_cons_succ]
    refine wpAnyH_take (i := 10) (v := ?_) rfl (by kernel_rfl) (by kernel_rfl) (by kernel_rfl) (fun _ _ _ h => h) (Or.inl ⟨by rfl, ?_⟩) hS0 ?_
    rotate_left
    · intro u hu; (try dsimp only at hu); go_simp; try with_reducible rfl
    simp only [Act.put, List.getElem_toArray, List.getElem_cons_zero, List.getElem_cons_succ, List.setIfInBounds_toArray, List.set_cons_zero, List.set_cons_succ]
    refine wpAnyH_take (i := 11) (v := ?_) rfl (by kernel_rfl) (by kernel_rfl) (by kernel_rfl) (fun _ _ _ h => h) (Or.inl ⟨by rfl, ?_⟩) hS0 ?_
    rotate_left
    · intro u hu; (try dsimp only at hu); go_simp; try with_reducible rfl
    simp only [Act.put, List.getElem_toArray, List.getElem_cons_zero, List.getElem_cons_succ, List.setIfInBounds_toArray, List.set_cons_zero, List.set_cons_succ]
    refine wpAnyH_take (i := 13) (v := ?_) rfl (by kernel_rfl) (by kernel_rfl) (by kernel_rfl) (fun _ _ _ h => h) (Or.inl ⟨by rfl, ?_⟩) hS0 ?_
    rotate_left
    · intro u hu; (try dsimp only at hu); go_simp; try with_reducible rfl
    simp only [Act.put, List.getElem_toArray, List.getElem_cons_zero, List.getElem_cons_succ, List.setIfInBounds_toArray, List.set_cons_zero, List.set_cons_succ]
    refine wpAnyH_take (i := 14) (v := ?_) rfl (by kernel_rfl) (by kernel_rfl) (by kernel_rfl) (fun _ _ _ h => h) (Or.inl ⟨by rfl, ?_⟩) hS0 ?_
    rotate_left
    · intro u hu; (try dsimp only at hu); go_simp; try with_reducible rfl
    simp only [Act.put, List.getElem_toArray, List.getElem_cons_zero, List.getElem_cons_succ, List.setIfInBounds_toArray, List.set_cons_zero, List.set_cons_succ]
    refine wpAnyH_ready (rs := [4, 12]) (by kernel_rfl) (by simp) ?_
    obtain ⟨t, ht⟩ : ∃ t : T3, t = ⟨fun k => match k with | 0 => none | 1 => xa | _ => none, fun k => match k with | 0 => 0 | 1 => its.length | _ => 0, fun k => match k with | 0 => 0 | 1 => xc | _ => 0, fun k => match k with | 0 => [] | 1 => icells its | _ => []⟩ := ⟨_, rfl⟩
    have hT3 : t.In 3 w3 := by
      subst ht
      refine ⟨fun k hk3 => ?_, fun k hk3 => ?_, fun k hk3 => ?_, fun k hk3 => ?_⟩
      · match k, hk3 with
        | 0, _ => exact Cr.nil _ _ _
        | 1, _ => exact unhide HX3
        | 2, _ => exact Cr.nil _ _ _
      · match k, hk3 with
        | 0, _ => intro u hu; simp at hu
        | 1, _ => exact icells_one _
        | 2, _ => intro u hu; simp at hu
      · match k, hk3 with
        | 0, _ => intro _; exact ⟨rfl, rfl⟩
        | 1, _ => exact hxn
        | 2, _ => intro _; exact ⟨rfl, rfl⟩
      · match k, hk3 with
        | 0, _ => exact Nat.zero_le _
        | 1, _ => show its.length ≤ 1000; omega
        | 2, _ => exact Nat.zero_le _
    have HT3 := hide hT3
    have hsum : t.sum 3 = its.length := by subst ht; simp [T3.sum]
    have hall : t.all 3 = icells its := by subst ht; simp [T3.all]
    have ht0 : t.a 0 = none ∧ t.n 0 = 0 ∧ t.c 0 = 0 ∧ t.a 1 = xa ∧ t.n 1 = its.length ∧ t.c 1 = xc ∧ t.a 2 = none ∧ t.n 2 = 0 ∧ t.c 2 = 0 := by subst ht; exact ⟨rfl, rfl, rfl, rfl, rfl, rfl, rfl, rfl, rfl⟩
    have HSUM := hide hsum
    have HALL := hide hall
    have HT0 := hide ht0
    have hlen : its.length = its.length := rfl
    have HLEN := hide hlen
    have CCC := hide (fun (u : World) (hb : Below w3.heap.size w3 u) (q : Nat) (hq : ∀ k, k < 3 → u.cell? ⟨q, k, none⟩ = some (.slice (t.a k) (t.n k) (t.c k))) (hqw : q < u.heap.size) => concatI_any u q 3 3 t (by omega) hq hqw ((unhide HT3).below hb))
    clear hT3 hsum hall ht0 hlen ht HT3
    refine AllReadyH.cons rfl (fun K hK => ?_) (AllReadyH.cons rfl (fun K hK => ?_) AllReadyH.nil)
    · go_simp
      refine hK.out _ _ hS0 (fun hS1 => ?_)
      clear hK K
      refine wpAnyH_take (i := 7) (v := ?_) rfl (by kernel_rfl) (by kernel_rfl) (by kernel_rfl) (fun _ _ _ h => h) (Or.inl ⟨by rfl, ?_⟩) hS1 ?_
      rotate_left
      · intro u hu; (try dsimp only at hu); go_simp; try with_reducible rfl
      simp only [Act.put, List.getElem_toArray, List.getElem_cons_zero, List.getElem_cons_succ, List.setIfInBounds_toArray, List.set_cons_zero, List.set_cons_succ]
      refine wpAnyH_ready (rs := [12]) (by kernel_rfl) (by simp) ?_
      refine AllReadyH.cons rfl (fun K hK => ?_) AllReadyH.nil
      go_simp
      refine hK.out _ _ hS1 (fun hS2 => ?_)
      clear hK K hS1
      refine wpAnyH_take (i := 15) (v := ?_) rfl (by kernel_rfl) (by kernel_rfl) (by kernel_rfl) (fun _ _ _ h => h) (Or.inl ⟨by rfl, ?_⟩) hS2 ?_
      rotate_left
      · intro u hu; (try dsimp only at hu); go_simp; try with_reducible rfl
      simp only [Act.put, List.getElem_toArray, List.getElem_cons_zero, List.getElem_cons_succ, List.setIfInBounds_toArray, List.set_cons_zero, List.set_cons_succ]
      refine wpAnyH_ready (rs := [16]) (by kernel_rfl) (by simp) ?_
      refine AllReadyH.cons rfl (fun K hK => ?_) AllReadyH.nil
      go_simp
      have hbu := b_al (w := w3) (.cells #[.slice none 0 0, .slice xa its.length xc, .slice none 0 0] 33)
      have hux : (w3.alloc (.cells #[.slice none 0 0, .slice xa its.length xc, .slice none 0 0] 33)).heap[w3.heap.size]? = some (.cells #[.slice none 0 0, .slice xa its.length xc, .slice none 0 0] 33 (0, 0)) := (MapKept.heap_alloc _ _).1
      have hus : (w3.alloc (.cells #[.slice none 0 0, .slice xa its.length xc, .slice none 0 0] 33)).heap.size = w3.heap.size + 1 := by simp
      obtain ⟨u, hu⟩ : ∃ u, w3.alloc (.cells #[.slice none 0 0, .slice xa its.length xc, .slice none 0 0] 33) = u := ⟨_, rfl⟩
      rw [hu] at hbu hux hus ⊢
      have hbxu : u.heap[w.heap.size]? = some (.cells #[.int .i64 hd, .int .i64 ct, .int .i64 0, .int .i64 0] 79 (0, 0)) := by rw [hbu.block _ (by omega)]; exact unhide HBX3
      have C5 := hide (unhide CCC u hbu w3.heap.size (fun k hk3 => by
        have hh := unhide HT0
        match k, hk3 with
        | 0, _ => rw [hh.1, hh.2.1, hh.2.2.1]; simp only [World.cell?, hux]; rfl
        | 1, _ => rw [hh.2.2.2.1, hh.2.2.2.2.1, hh.2.2.2.2.2.1]; simp only [World.cell?, hux]; rfl
        | 2, _ => rw [hh.2.2.2.2.2.2.1, hh.2.2.2.2.2.2.2.1, hh.2.2.2.2.2.2.2.2]; simp only [World.cell?, hux]; rfl) (by omega))
      have HBU := hide hbu
      have HUS := hide hus
      have HBXU := hide hbxu
      refine hK.out _ _ ⟨by simp only [World.cell?, hbxu]; rfl, by simp only [World.cell?, hbxu]; rfl⟩ (fun hS4 => ?_)
      clear hK K hS2 hu hux hbu hus hbxu CCC
      refine wpAnyH_ready (rs := [17]) (by kernel_rfl) (by simp) ?_
      refine AllReadyH.cons rfl (fun K hK => ?_) AllReadyH.nil
      go_simp
      refine (unhide C5).mono ?_
      rintro e w5 ⟨⟨v5, rfl, ho5⟩, hb5⟩
      rw [unhide HSUM, unhide HALL] at ho5
      have hb35 : Below w3.heap.size w3 w5 := (unhide HBU).trans (hb5.mono (unhide HBU).size)
      have hF5 := (unhide HF3).below hb35
      have hO5 := owns_below' (unhide HOB3) hb35
      have hB5 : Below w.heap.size w w5 := (unhide HB3).trans (hb35.mono (by omega))
      have hbx5 : w5.heap[w.heap.size]? = some (.cells #[.int .i64 hd, .int .i64 ct, .int .i64 0, .int .i64 0] 79 (0, 0)) := by rw [hb35.block _ (by omega)]; exact unhide HBX3
      have hus2 : w3.heap.size + 1 ≤ u.heap.size := by rw [unhide HUS]; exact Nat.le_refl _
      have ho5' := owns_mono ho5 (base' := w3.heap.size) (by omega)
      obtain ⟨g5, c5, rfl⟩ := own_form ho5' (by omega)
      have hg5 := ho5'.lt g5 rfl
      obtain ⟨a5, c5', hv5, hc5, hn5, hI5, hlo5⟩ := cr_of_owns ho5' (by omega)
      cases hv5
      have q5 : w5.cell? ⟨b, 0, none⟩ = some (.slice none 0 0) := hF5.cells.1
      have f5 : w5.frozen? ⟨b, 0, none⟩ = false := hF5.fz 0
      have p52 : w5.cell? ⟨w.heap.size, 2, none⟩ = some (.int .i64 0) := by simp only [World.cell?, hbx5]; rfl
      have p53 : w5.cell? ⟨w.heap.size, 3, none⟩ = some (.int .i64 0) := by simp only [World.cell?, hbx5]; rfl
      have hsw5 : w3.heap.size ≤ w5.heap.size := hb35.size
      have HF5 := hide hF5
      have HO5 := hide hO5
      have HB5 := hide hB5
      have HI5 := hide hI5
      have HBX5 := hide hbx5
      have HC5 := hide hc5
      refine hK.out _ _ ⟨p52, p53⟩ (fun hS5 => ?_)
      clear hK K hS4 hF5 hO5 hB5 hI5 hbx5 C5 ho5 ho5' hb5 hb35 hn5 hlo5 hus2 HBU HUS HBXU hc5
      refine wpAnyH_take (i := 18) (v := ?_) rfl (by kernel_rfl) (by kernel_rfl) (by kernel_rfl) (fun _ _ _ h => h) (Or.inl ⟨by rfl, ?_⟩) hS5 ?_
      rotate_left
      · intro u hu; (try dsimp only at hu); go_simp; try with_reducible rfl
      simp only [Act.put, List.getElem_toArray, List.getElem_cons_zero, List.getElem_cons_succ, List.setIfInBounds_toArray, List.set_cons_zero, List.set_cons_succ]
      refine wpAnyH_take (i := 19) (v := ?_) rfl (by kernel_rfl) (by kernel_rfl) (by kernel_rfl) (fun _ _ _ h => h) (Or.inl ⟨by rfl, ?_⟩) hS5 ?_
      rotate_left
      · intro u hu; (try dsimp only at hu); go_simp; try with_reducible rfl
      simp only [Act.put, List.getElem_toArray, List.getElem_cons_zero, List.getElem_cons_succ, List.setIfInBounds_toArray, List.set_cons_zero, List.set_cons_succ]
      refine wpAnyH_ready (rs := [20]) (by kernel_rfl) (by simp) ?_
      refine AllReadyH.cons rfl (fun K hK => ?_) AllReadyH.nil
      go_simp
      have hB6 : Bz (min b N) (· = b) w (w5.setCell ⟨b, 0, none⟩ (.slice (some ⟨g5, 0, none⟩) (its.length) c5)) :=
        (Bz.of (unhide HB5) (Nat.le_trans (Nat.min_le_right _ _) hN)).trans (Bz.set (S := (· = b)) (B := min b N) (p := ⟨b, 0, none⟩) rfl (Nat.min_le_left _ _) (Nat.le_trans (Nat.min_le_right _ _) (Nat.le_trans hN (unhide HB5).size)) _)
      have hne6 : w.heap.size ≠ b := by omega
      have p62 : (w5.setCell ⟨b, 0, none⟩ (.slice (some ⟨g5, 0, none⟩) (its.length) c5)).cell? ⟨w.heap.size, 2, none⟩ = some (.int .i64 0) := by rw [cell_set_far _ _ _ _ hne6]; exact p52
      have p63 : (w5.setCell ⟨b, 0, none⟩ (.slice (some ⟨g5, 0, none⟩) (its.length) c5)).cell? ⟨w.heap.size, 3, none⟩ = some (.int .i64 0) := by rw [cell_set_far _ _ _ _ hne6]; exact p53
      have HB6 := hide hB6
      refine hK.out _ _ ⟨p62, p63⟩ (fun hS6 => ?_)
      clear hK K hS5 p52 p53 p62 p63
      refine wpAnyH_done (by kernel_rfl) ?_ _
      go_wp2_with fail
      go_ret
      have hfb := unhide HF5
      have h6 : ∀ i, i ≠ b → (w5.setCell ⟨b, 0, none⟩ (.slice (some ⟨g5, 0, none⟩) (its.length) c5)).heap[i]? = w5.heap[i]? := fun i hi => Below.heap_setCell _ _ _ _ hi
      have hs6 : (w5.setCell ⟨b, 0, none⟩ (.slice (some ⟨g5, 0, none⟩) (its.length) c5)).heap.size = w5.heap.size := by simp [World.setCell]
      have hwb : w.heap.size ≤ g5 := by omega
      refine ⟨⟨v, some ⟨g5, 0, none⟩, c5, rfl, ?_, ⟨?_, fun h => (by cases h), ?_, fun g' off he => (by cases he; exact ⟨by omega, rfl⟩), fun g' off he => (by cases he; refine ⟨by omega, fun h => ?_⟩; have := (hfb.own.lt g5 h).2; have h9 := (unhide HF3).own.lt g5 h; omega), ?_, ?_, hfb.pne, ?_⟩, fun g' off he => (by cases he; omega), by simp⟩, unhide HB6⟩
      · exact owns_keep (unhide HO5) (fun i hi => h6 i (fun e => by have := ((unhide HO5).lt i hi).1; omega))
      · exact box_set hfb.box
      · exact unhide HC5
      · unfold Is
        exact Cr.keep (unhide HI5) (by rw [hs6]; exact Nat.le_refl _) (fun i off he hi => by cases he; exact h6 _ (by omega))
      · exact owns_keep hfb.own (fun i hi => h6 i (fun e => hfb.pne (by rw [hi, e])))
      · exact ⟨by omega, hsm.2⟩
    · go_simp
      refine hK.out _ _ hS0 (fun hS1 => ?_)
      clear hK K
      refine wpAnyH_take (i := 15) (v := ?_) rfl (by kernel_rfl) (by kernel_rfl) (by kernel_rfl) (fun _ _ _ h => h) (Or.inl ⟨by rfl, ?_⟩) hS1 ?_
      rotate_left
      · intro u hu; (try dsimp only at hu); go_simp; try with_reducible rfl
      simp only [Act.put, List.getElem_toArray, List.getElem_cons_zero, List.getElem_cons_succ, List.setIfInBounds_toArray, List.set_cons_zero, List.set_cons_succ]
      refine wpAnyH_ready (rs := [4]) (by kernel_rfl) (by simp) ?_
      refine AllReadyH.cons rfl (fun K hK => ?_) AllReadyH.nil
      go_simp
      refine hK.out _ _ hS1 (fun hS2 => ?_)
      clear hK K hS1
      refine wpAnyH_take (i := 7) (v := ?_) rfl (by kernel_rfl) (by kernel_rfl) (by kernel_rfl) (fun _ _ _ h => h) (Or.inl ⟨by rfl, ?_⟩) hS2 ?_
      rotate_left
      · intro u hu; (try dsimp only at hu); go_simp; try with_reducible rfl
      simp only [Act.put, List.getElem_toArray, List.getElem_cons_zero, List.getElem_cons_succ, List.setIfInBounds_toArray, List.set_cons_zero, List.set_cons_succ]
      refine wpAnyH_ready (rs := [16]) (by kernel_rfl) (by simp) ?_
      refine AllReadyH.cons rfl (fun K hK => ?_) AllReadyH.nil
      go_simp
      have hbu := b_al (w := w3) (.cells #[.slice none 0 0, .slice xa its.length xc, .slice none 0 0] 33)
      have hux : (w3.alloc (.cells #[.slice none 0 0, .slice xa its.length xc, .slice none 0 0] 33)).heap[w3.heap.size]? = some (.cells #[.slice none 0 0, .slice xa its.length xc, .slice none 0 0] 33 (0, 0)) := (MapKept.heap_alloc _ _).1
      have hus : (w3.alloc (.cells #[.slice none 0 0, .slice xa its.length xc, .slice none 0 0] 33)).heap.size = w3.heap.size + 1 := by simp
      obtain ⟨u, hu⟩ : ∃ u, w3.alloc (.cells #[.slice none 0 0, .slice xa its.length xc, .slice none 0 0] 33) = u := ⟨_, rfl⟩
      rw [hu] at hbu hux hus ⊢
      have hbxu : u.heap[w.heap.size]? = some (.cells #[.int .i64 hd, .int .i64 ct, .int .i64 0, .int .i64 0] 79 (0, 0)) := by rw [hbu.block _ (by omega)]; exact unhide HBX3
      have C5 := hide (unhide CCC u hbu w3.heap.size (fun k hk3 => by
        have hh := unhide HT0
        match k, hk3 with
        | 0, _ => rw [hh.1, hh.2.1, hh.2.2.1]; simp only [World.cell?, hux]; rfl
        | 1, _ => rw [hh.2.2.2.1, hh.2.2.2.2.1, hh.2.2.2.2.2.1]; simp only [World.cell?, hux]; rfl
        | 2, _ => rw [hh.2.2.2.2.2.2.1, hh.2.2.2.2.2.2.2.1, hh.2.2.2.2.2.2.2.2]; simp only [World.cell?, hux]; rfl) (by omega))
      have HBU := hide hbu
      have HUS := hide hus
      have HBXU := hide hbxu
      refine hK.out _ _ ⟨by simp only [World.cell?, hbxu]; rfl, by simp only [World.cell?, hbxu]; rfl⟩ (fun hS4 => ?_)
      clear hK K hS2 hu hux hbu hus hbxu CCC
      refine wpAnyH_ready (rs := [17]) (by kernel_rfl) (by simp) ?_
      refine AllReadyH.cons rfl (fun K hK => ?_) AllReadyH.nil
      go_simp
      refine (unhide C5).mono ?_
      rintro e w5 ⟨⟨v5, rfl, ho5⟩, hb5⟩
      rw [unhide HSUM, unhide HALL] at ho5
      have hb35 : Below w3.heap.size w3 w5 := (unhide HBU).trans (hb5.mono (unhide HBU).size)
      have hF5 := (unhide HF3).below hb35
      have hO5 := owns_below' (unhide HOB3) hb35
      have hB5 : Below w.heap.size w w5 := (unhide HB3).trans (hb35.mono (by omega))
      have hbx5 : w5.heap[w.heap.size]? = some (.cells #[.int .i64 hd, .int .i64 ct, .int .i64 0, .int .i64 0] 79 (0, 0)) := by rw [hb35.block _ (by omega)]; exact unhide HBX3
      have hus2 : w3.heap.size + 1 ≤ u.heap.size := by rw [unhide HUS]; exact Nat.le_refl _
      have ho5' := owns_mono ho5 (base' := w3.heap.size) (by omega)
      obtain ⟨g5, c5, rfl⟩ := own_form ho5' (by omega)
      have hg5 := ho5'.lt g5 rfl
      obtain ⟨a5, c5', hv5, hc5, hn5, hI5, hlo5⟩ := cr_of_owns ho5' (by omega)
      cases hv5
      have q5 : w5.cell? ⟨b, 0, none⟩ = some (.slice none 0 0) := hF5.cells.1
      have f5 : w5.frozen? ⟨b, 0, none⟩ = false := hF5.fz 0
      have p52 : w5.cell? ⟨w.heap.size, 2, none⟩ = some (.int .i64 0) := by simp only [World.cell?, hbx5]; rfl
      have p53 : w5.cell? ⟨w.heap.size, 3, none⟩ = some (.int .i64 0) := by simp only [World.cell?, hbx5]; rfl
      have hsw5 : w3.heap.size ≤ w5.heap.size := hb35.size
      have HF5 := hide hF5
      have HO5 := hide hO5
      have HB5 := hide hB5
      have HI5 := hide hI5
      have HBX5 := hide hbx5
      have HC5 := hide hc5
      refine hK.out _ _ ⟨p52, p53⟩ (fun hS5 => ?_)
      clear hK K hS4 hF5 hO5 hB5 hI5 hbx5 C5 ho5 ho5' hb5 hb35 hn5 hlo5 hus2 HBU HUS HBXU hc5
      refine wpAnyH_take (i := 18) (v := ?_) rfl (by kernel_rfl) (by kernel_rfl) (by kernel_rfl) (fun _ _ _ h => h) (Or.inl ⟨by rfl, ?_⟩) hS5 ?_
      rotate_left
      · intro u hu; (try dsimp only at hu); go_simp; try with_reducible rfl
      simp only [Act.put, List.getElem_toArray, List.getElem_cons_zero, List.getElem_cons_succ, List.setIfInBounds_toArray, List.set_cons_zero, List.set_cons_succ]
      refine wpAnyH_take (i := 19) (v := ?_) rfl (by kernel_rfl) (by kernel_rfl) (by kernel_rfl) (fun _ _ _ h => h) (Or.inl ⟨by rfl, ?_⟩) hS5 ?_
      rotate_left
      · intro u hu; (try dsimp only at hu); go_simp; try with_reducible rfl
      simp only [Act.put, List.getElem_toArray, List.getElem_cons_zero, List.getElem_cons_succ, List.setIfInBounds_toArray, List.set_cons_zero, List.set_cons_succ]
      refine wpAnyH_ready (rs := [20]) (by kernel_rfl) (by simp) ?_
      refine AllReadyH.cons rfl (fun K hK => ?_) AllReadyH.nil
      go_simp
      have hB6 : Bz (min b N) (· = b) w (w5.setCell ⟨b, 0, none⟩ (.slice (some ⟨g5, 0, none⟩) (its.length) c5)) :=
        (Bz.of (unhide HB5) (Nat.le_trans (Nat.min_le_right _ _) hN)).trans (Bz.set (S := (· = b)) (B := min b N) (p := ⟨b, 0, none⟩) rfl (Nat.min_le_left _ _) (Nat.le_trans (Nat.min_le_right _ _) (Nat.le_trans hN (unhide HB5).size)) _)
      have hne6 : w.heap.size ≠ b := by omega
      have p62 : (w5.setCell ⟨b, 0, none⟩ (.slice (some ⟨g5, 0, none⟩) (its.length) c5)).cell? ⟨w.heap.size, 2, none⟩ = some (.int .i64 0) := by rw [cell_set_far _ _ _ _ hne6]; exact p52
      have p63 : (w5.setCell ⟨b, 0, none⟩ (.slice (some ⟨g5, 0, none⟩) (its.length) c5)).cell? ⟨w.heap.size, 3, none⟩ = some (.int .i64 0) := by rw [cell_set_far _ _ _ _ hne6]; exact p53
      have HB6 := hide hB6
      refine hK.out _ _ ⟨p62, p63⟩ (fun hS6 => ?_)
      clear hK K hS5 p52 p53 p62 p63
      refine wpAnyH_done (by kernel_rfl) ?_ _
      go_wp2_with fail
      go_ret
      have hfb := unhide HF5
      have h6 : ∀ i, i ≠ b → (w5.setCell ⟨b, 0, none⟩ (.slice (some ⟨g5, 0, none⟩) (its.length) c5)).heap[i]? = w5.heap[i]? := fun i hi => Below.heap_setCell _ _ _ _ hi
      have hs6 : (w5.setCell ⟨b, 0, none⟩ (.slice (some ⟨g5, 0, none⟩) (its.length) c5)).heap.size = w5.heap.size := by simp [World.setCell]
      have hwb : w.heap.size ≤ g5 := by omega
      refine ⟨⟨v, some ⟨g5, 0, none⟩, c5, rfl, ?_, ⟨?_, fun h => (by cases h), ?_, fun g' off he => (by cases he; exact ⟨by omega, rfl⟩), fun g' off he => (by cases he; refine ⟨by omega, fun h => ?_⟩; have := (hfb.own.lt g5 h).2; have h9 := (unhide HF3).own.lt g5 h; omega), ?_, ?_, hfb.pne, ?_⟩, fun g' off he => (by cases he; omega), by simp⟩, unhide HB6⟩
      · exact owns_keep (unhide HO5) (fun i hi => h6 i (fun e => by have := ((unhide HO5).lt i hi).1; omega))
      · exact box_set hfb.box
      · exact unhide HC5
      · unfold Is
        exact Cr.keep (unhide HI5) (by rw [hs6]; exact Nat.le_refl _) (fun i off he hi => by cases he; exact h6 _ (by omega))
      · exact owns_keep hfb.own (fun i hi => h6 i (fun e => hfb.pne (by rw [hi, e])))
      · exact ⟨by omega, hsm.2⟩
  · have hn0 : 0 < n := by rw [← hn]; exact List.length_pos_iff.2 hrow
    obtain ⟨g, hg⟩ : ∃ g, ra = some ⟨g, 0, none⟩ := by
      obtain ⟨g, off, he, _⟩ := hF.items.2.2 0 (by omega)
      exact ⟨g, by rw [he, (hF.rlo g off he).2]⟩
    subst hg
    have hlo : (lo : Int) < (hi : Int) := by have := hl2 hrow; omega
    have hlo2 : (lo : Int) ≤ (hi : Int) := by omega
    have hhn : (hi : Int) ≤ (n : Int) := by omega
    have hhr : (hi : Int) ≤ (rc : Int) := by omega
    have hlr : (lo : Int) ≤ (rc : Int) := by omega
    have hrl : ¬ rc = lo := by omega
    have hI0 : Cr 3 W (some ⟨g, 0, none⟩) n (icells row) := by have := hF0.items; unfold Is at this; rw [hn] at this; exact this
    have hI1 := (hI0.take (m := hi) (by omega)).drop (m := lo) (by omega) ⟨g, lo * 3, none⟩ (fun _ => by simp)
    rw [icells_take, icells_drop] at hI1
    have q0 : W.cell? ⟨b, 0, none⟩ = some (.slice (some ⟨g, 0, none⟩) n rc) := by have := hF0.cells.1; rw [hn] at this; exact this
    have HN := hide hn
    have hS : W.cell? ⟨b, 0, none⟩ = some (.slice (some ⟨g, 0, none⟩) n rc) ∧ W.cell? ⟨w.heap.size, 2, none⟩ = some (.int .i64 (lo : Nat)) ∧ W.cell? ⟨w.heap.size, 3, none⟩ = some (.int .i64 (hi : Nat)) := ⟨q0, by simp only [World.cell?, hbx]; rfl, by simp only [World.cell?, hbx]; rfl⟩
    clear hF0 hF hn q0 hbx c0 c1 c2 c3 hI0 hb0 hX0 hX hWs
    go_enter Try.func37, Try.ntmps37
    go_wp2_with fail
    try rw [hW]
    refine wp_region_held_drew (S := fun u => u.cell? ⟨b, 0, none⟩ = some (.slice (some ⟨g, 0, none⟩) n rc) ∧ u.cell? ⟨w.heap.size, 2, none⟩ = some (.int .i64 (lo : Nat)) ∧ u.cell? ⟨w.heap.size, 3, none⟩ = some (.int .i64 (hi : Nat))) (by kernel_rfl) hS (fun hS0 => ?_)
    have CC2 := hide (show Calls Try.prog 30 #[.slice (some ⟨g, lo * 3, none⟩) (hi - lo) (rc - lo)] W.drew _ from cloneI_any W.drew _ _ (rc - lo) _ (hI1.below b_dr) (icells_one _) (fun h => by cases h) (by omega))
    have HF1 := hide ((unhide HF0).below b_dr)
    have HX1 := hide ((unhide HX0).below b_dr)
    have HB1 := hide ((unhide HB0).drew)
    have HBX1 := hide (show W.drew.heap[w.heap.size]? = _ from unhide HBX)
    have HWS1 := hide (show W.drew.heap.size = _ from unhide HWS)
    clear HF0 HX0 HB0 HBX HWS hI1 hS hW
    generalize W.drew = W1 at hS0 CC2 HF1 HX1 HB1 HBX1 HWS1 ⊢
    clear W
    refine wpAnyH_take (i := 0) (v := ?_) rfl (by kernel_rfl) (by kernel_rfl) (by kernel_rfl) (fun _ _ _ h => h) (Or.inl ⟨by rfl, ?_⟩) hS0 ?_
    rotate_left
    · intro u hu; (try dsimp only at hu); go_simp; try with_reducible rfl
    simp only [Act.put, List.getElem_toArray, List.getElem_cons_zero, List.setIfInBounds_toArray, List.set_cons_zero, List.set_cons_succ]
    refine wpAnyH_take (i := 1) (v := ?_) rfl (by kernel_rfl) (by kernel_rfl) (by kernel_rfl) (fun _ _ _ h => h) (Or.inl ⟨by rfl, ?_⟩) hS0 ?_
    rotate_left
    · intro u hu; (try dsimp only at hu); go_simp; try with_reducible rfl
    simp only [Act.put, List.getElem_toArray, List.getElem_cons_zero, List.getElem_cons_succ, List.setIfInBounds_toArray, List.set_cons_zero, List.set_cons_succ]
    refine wpAnyH_take (i := 2) (v := ?_) rfl (by kernel_rfl) (by kernel_rfl) (by kernel_rfl) (fun _ _ _ h => h) (Or.inl ⟨by rfl, ?_⟩) hS0 ?_
    rotate_left
    · intro u hu; (try dsimp only at hu); go_simp; try with_reducible rfl
    simp only [Act.put, List.getElem_toArray, List.getElem_cons_zero, List.getElem_cons_succ, List.setIfInBounds_toArray, List.set_cons_zero, List.set_cons_succ]
    refine wpAnyH_take (i := 3) (v := ?_) rfl (by kernel_rfl) (by kernel_rfl) (by kernel_rfl) (fun _ _ _ h => h) (Or.inl ⟨by rfl, ?_⟩) hS0 ?_
    rotate_left
    · intro u hu; (try dsimp only at hu); go_simp; try with_reducible rfl
    simp only [Act.put, List.getElem_toArray, List.getElem_cons_zero, List.getElem_cons_succ, List.setIfInBounds_toArray, List.set_cons_zero, List.set_cons_succ]
    refine wpAnyH_take (i := 4) (v := ?_) rfl (by kernel_rfl) (by kernel_rfl) (by kernel_rfl) (fun _ _ _ h => h) (Or.inl ⟨by rfl, ?_⟩) hS0 ?_
    rotate_left
    · intro u hu; (try dsimp only at hu); go_simp; try with_reducible rfl
    simp only [Act.put, List.getElem_toArray, List.getElem_cons_zero, List.getElem_cons_succ, List.setIfInBounds_toArray, List.set_cons_zero, List.set_cons_succ]
    refine wpAnyH_take (i := 5) (v := ?_) rfl (by kernel_rfl) (by kernel_rfl) (by kernel_rfl) (fun _ _ _ h => h) (Or.inl ⟨by rfl, ?_⟩) hS0 ?_
    rotate_left
    · intro u hu; (try dsimp only at hu); go_simp; try with_reducible rfl
    simp only [Act.put, List.getElem_toArray, List.getElem_cons_zero, List.getElem_cons_succ, List.setIfInBounds_toArray, List.set_cons_zero, List.set_cons_succ]
    refine wpAnyH_take (i := 6) (v := ?_) rfl (by kernel_rfl) (by kernel_rfl) (by kernel_rfl) (fun _ _ _ h => h) (Or.inl ⟨by rfl, ?_⟩) hS0 ?_
    rotate_left
    · intro u hu; (try dsimp only at hu); go_simp; try with_reducible rfl
    simp only [Act.put, List.getElem_toArray, List.getElem_cons_zero, List.getElem_cons_succ, List.setIfInBounds_toArray, List.set_cons_zero, List.set_cons_succ]
    refine wpAnyH_take (i := 7) (v := ?_) rfl (by kernel_rfl) (by kernel_rfl) (by kernel_rfl) (fun _ _ _ h => h) (Or.inl ⟨by rfl, ?_⟩) hS0 ?_
    rotate_left
    · intro u hu; (try dsimp only at hu); go_simp; try with_reducible rfl
    simp only [Act.put, List.getElem_toArray, List.getElem_cons_zero, List.getElem_cons_succ, List.setIfInBounds_toArray, List.set_cons_zero, List.set_cons_succ]
    refine wpAnyH_take (i := 8) (v := ?_) rfl (by kernel_rfl) (by kernel_rfl) (by kernel_rfl) (fun _ _ _ h => h) (Or.inl ⟨by rfl, ?_⟩) hS0 ?_
    rotate_left
    · intro u hu; (try dsimp only at hu); go_simp; try with_reducible rfl
    simp only [Act.put, List.getElem_toArray, List.getElem_cons_zero, List.getElem_cons_succ, List.setIfInBounds_toArray, List.set_cons_zero, List.set_cons_succ]
    refine wpAnyH_ready (rs := [9]) (by kernel_rfl) (by simp) ?_
    refine AllReadyH.cons rfl (fun K hK => ?_) AllReadyH.nil
    go_simp
    refine (unhide CC2).mono ?_
    rintro e w2 ⟨⟨v, rfl, ho⟩, hb2⟩
    have HO := hide ho
    have hF2 := (unhide HF1).below hb2
    have hbx2 : w2.heap[w.heap.size]? = some (.cells #[.int .i64 hd, .int .i64 ct, .int .i64 (lo : Nat), .int .i64 (hi : Nat)] 79 (0, 0)) := by rw [hb2.block _ (by rw [unhide HWS1]; omega)]; exact unhide HBX1
    have hsw2 : w.heap.size + 1 ≤ w2.heap.size := by have := hb2.size; rw [unhide HWS1] at this; exact this
    have hB2 : Below w.heap.size w w2 := (unhide HB1).trans (hb2.mono (by rw [unhide HWS1]; omega))
    have hX2 := (unhide HX1).below hb2
    have HOB := hide (show w2.ownsRow w.heap.size 72 3 v (hi - lo) (icells ((row.take hi).drop lo)) from owns_mono ho (by rw [unhide HWS1]; omega))
    have q2 : w2.cell? ⟨b, 0, none⟩ = some (.slice (some ⟨g, 0, none⟩) n rc) := by have := hF2.cells.1; rw [unhide HN] at this; exact this
    have p2 : w2.cell? ⟨w.heap.size, 2, none⟩ = some (.int .i64 (lo : Nat)) := by simp only [World.cell?, hbx2]; rfl
    have p3 : w2.cell? ⟨w.heap.size, 3, none⟩ = some (.int .i64 (hi : Nat)) := by simp only [World.cell?, hbx2]; rfl
    refine hK.out _ _ ⟨q2, p2, p3⟩ (fun hS2 => ?_)
    clear hK K hS0 ho hb2 CC2 HX1 HF1 HBX1 HWS1 HB1 HO
    refine wpAnyH_take (i := 10) (v := ?_) rfl (by kernel_rfl) (by kernel_rfl) (by kernel_rfl) (fun _ _ _ h => h) (Or.inl ⟨by rfl, ?_⟩) hS2 ?_
    rotate_left
    · intro u hu; (try dsimp only at hu); go_simp; try with_reducible rfl
    simp only [Act.put, List.getElem_toArray, List.getElem_cons_zero, List.getElem_cons_succ, List.setIfInBounds_toArray, List.set_cons_zero, List.set_cons_succ]
    refine wpAnyH_done (by kernel_rfl) ?_ _
    have hfz : w2.frozen? ⟨b, 0, none⟩ = false := hF2.fz 0
    have HF2 := hide hF2
    have HX2 := hide hX2
    have HB2 := hide hB2
    have HBX2 := hide hbx2
    clear hF2 hX2 hB2 hbx2 hS2
    go_wp2_with fail
    refine wp_region_held_drew (S := fun u => u.cell? ⟨w.heap.size, 2, none⟩ = some (.int .i64 (lo : Nat)) ∧ u.cell? ⟨w.heap.size, 3, none⟩ = some (.int .i64 (hi : Nat))) (by kernel_rfl) ⟨p2, p3⟩ (fun hS0 => ?_)
    have HF3 := hide ((unhide HF2).below b_dr)
    have HX3 := hide ((unhide HX2).below b_dr)
    have HB3 := hide ((unhide HB2).drew)
    have HBX3 := hide (show w2.drew.heap[w.heap.size]? = _ from unhide HBX2)
    have HOB3 := hide (show w2.drew.ownsRow _ _ _ _ _ _ from unhide HOB)
    have hsw3 : w.heap.size + 1 ≤ w2.drew.heap.size := hsw2
    have q3 : w2.drew.cell? ⟨b, 0, none⟩ = some (.slice (some ⟨g, 0, none⟩) n rc) := q2
    clear HF2 HX2 HB2 HBX2 HOB p2 p3 hfz q2 hsw2
    generalize w2.drew = w3 at hS0 HF3 HX3 HB3 HBX3 HOB3 hsw3 q3 ⊢
    clear w2
    refine wpAnyH_take (i := 0) (v := ?_) rfl (by kernel_rfl) (by kernel_rfl) (by kernel_rfl) (fun _ _ _ h => h) (Or.inl ⟨by rfl, ?_⟩) hS0 ?_
    rotate_left
    · intro u hu; (try dsimp only at hu); go_simp; try with_reducible rfl
    simp only [Act.put, List.getElem_toArray, List.getElem_cons_zero, List.setIfInBounds_toArray, List.set_cons_zero, List.set_cons_succ]
    refine wpAnyH_take (i := 1) (v := ?_) rfl (by kernel_rfl) (by kernel_rfl) (by kernel_rfl) (fun _ _ _ h => h) (Or.inl ⟨by rfl, ?_⟩) hS0 ?_
    rotate_left
    · intro u hu; (try dsimp only at hu); go_simp; try with_reducible rfl
    simp only [Act.put, List.getElem_toArray, List.getElem_cons_zero, List.getElem_cons_succ, List.setIfInBounds_toArray, List.set_cons_zero, List.set_cons_succ]
    refine wpAnyH_take (i := 2) (v := ?_) rfl (by kernel_rfl) (by kernel_rfl) (by kernel_rfl) (fun _ _ _ h => h) (Or.inl ⟨by rfl, ?_⟩) hS0 ?_
    rotate_left
    · intro u hu; (try dsimp only at hu); go_simp; try with_reducible rfl
    simp only [Act.put, List.getElem_toArray, List.getElem_cons_zero, List.getElem_cons_succ, List.setIfInBounds_toArray, List.set_cons_zero, List.set_cons_succ]
    refine wpAnyH_take (i := 3) (v := ?_) rfl (by kernel_rfl) (by kernel_rfl) (by kernel_rfl) (fun _ _ _ h => h) (Or.inl ⟨by rfl, ?_⟩) hS0 ?_
    rotate_left
    · intro u hu; (try dsimp only at hu); go_simp; try with_reducible rfl
    simp only [Act.put, List.getElem_toArray, List.getElem_cons_zero, List.getElem_cons_succ, List.setIfInBounds_toArray, List.set_cons_zero, List.set_cons_succ]
    refine wpAnyH_take (i := 5) (v := ?_) rfl (by kernel_rfl) (by kernel_rfl) (by kernel_rfl) (fun _ _ _ h => h) (Or.inl ⟨by rfl, ?_⟩) hS0 ?_
    rotate_left
    · intro u hu; (try dsimp only at hu); go_simp; try with_reducible rfl
    simp only [Act.put, List.getElem_toArray, List.getElem_cons_zero, List.getElem_cons_succ, List.setIfInBounds_toArray, List.set_cons_zero, List.set_cons_succ]
    refine wpAnyH_take (i := 6) (v := ?_) rfl (by kernel_rfl) (by kernel_rfl) (by kernel_rfl) (fun _ _ _ h => h) (Or.inl ⟨by rfl, ?_⟩) hS0 ?_
    rotate_left
    · intro u hu; (try dsimp only at hu); go_simp; try with_reducible rfl
    simp only [Act.put, List.getElem_toArray, List.getElem_cons_zero, List.getElem_cons_succ, List.setIfInBounds_toArray, List.set_cons_zero, List.set_cons_succ]
    refine wpAnyH_take (i := 8) (v := ?_) rfl (by kernel_rfl) (by kernel_rfl) (by kernel_rfl) (fun _ _ _ h => h) (Or.inl ⟨by rfl, ?_⟩) hS0 ?_
    rotate_left
    · intro u hu; (try dsimp only at hu); go_simp; try with_reducible rfl
    simp only [Act.put, List.getElem_toArray, List.getElem_cons_zero, List.getElem_cons_succ, List.setIfInBounds_toArray, List.set_cons_zero, List.set_cons_succ]
    refine wpAnyH_take (i := 9) (v := ?_) rfl (by kernel_rfl) (by kernel_rfl) (by kernel_rfl) (fun _ _ _ h => h) (Or.inl ⟨by rfl, ?_⟩) hS0 ?_
    rotate_left
    · intro u hu; (try dsimp only at hu); go_simp; try with_reducible rfl
    simp only [Act.put, List.getElem_toArray, List.getElem_cons_zero, List.getElem_cons_succ, List.setIfInBounds_toArray, List.set_cons_zero, List.set_cons_succ]
    refine wpAnyH_take (i := 10) (v := ?_) rfl (by kernel_rfl) (by kernel_rfl) (by kernel_rfl) (fun _ _ _ h => h) (Or.inl ⟨by rfl, ?_⟩) hS0 ?_
    rotate_left
    · intro u hu; (try dsimp only at hu); go_simp; try with_reducible rfl
    simp only [Act.put, List.getElem_toArray, List.getElem_cons_zero, List.getElem_cons_succ, List.setIfInBounds_toArray, List.set_cons_zero, List.set_cons_succ]
    refine wpAnyH_take (i := 11) (v := ?_) rfl (by kernel_rfl) (by kernel_rfl) (by kernel_rfl) (fun _ _ _ h => h) (Or.inl ⟨by rfl, ?_⟩) hS0 ?_
    rotate_left
    · intro u hu; (try dsimp only at hu); go_simp; try with_reducible rfl
    simp only [Act.put, List.getElem_toArray, List.getElem_cons_zero, List.getElem_cons_succ, List.setIfInBounds_toArray, List.set_cons_zero, List.set_cons_succ]
    refine wpAnyH_take (i := 13) (v := ?_) rfl (by kernel_rfl) (by kernel_rfl) (by kernel_rfl) (fun _ _ _ h => h) (Or.inl ⟨by rfl, ?_⟩) hS0 ?_
    rotate_left
    · intro u hu; (try dsimp only at hu); go_simp; try with_reducible rfl
    simp only [Act.put, List.getElem_toArray, List.getElem_cons_zero, List.getElem_cons_succ, List.setIfInBounds_toArray, List.set_cons_zero, List.set_cons_succ]
    refine wpAnyH_take (i := 14) (v := ?_) rfl (by kernel_rfl) (by kernel_rfl) (by kernel_rfl) (fun _ _ _ h => h) (Or.inl ⟨by rfl, ?_⟩) hS0 ?_
    rotate_left
    · intro u hu; (try dsimp only at hu); go_simp; try with_reducible rfl
    simp only [Act.put, List.getElem_toArray, List.getElem_cons_zero, List.getElem_cons_succ, List.setIfInBounds_toArray, List.set_cons_zero, List.set_cons_succ]
    refine wpAnyH_ready (rs := [4, 12]) (by kernel_rfl) (by simp) ?_
    have hnr : n ≤ rc := by rw [← unhide HN]; exact hrc
    obtain ⟨ta, hta⟩ : ∃ ta, (if rc = hi then some (⟨g, 0, none⟩ : Addr) else some ⟨g, hi * 3, none⟩) = ta := ⟨_, rfl⟩
    obtain ⟨ta', hta'⟩ : ∃ ta' : Addr, ta = some ta' ∧ (hi < n → ta' = ⟨g, hi * 3, none⟩) := by
      by_cases h : rc = hi
      · rw [if_pos h] at hta
        exact ⟨_, hta.symm, fun h2 => by omega⟩
      · rw [if_neg h] at hta
        exact ⟨_, hta.symm, fun _ => rfl⟩
    have HTA := hide hta
    have HTA' := hide hta'
    have hlo1 : lo ≤ 1000 ∧ n - hi ≤ 1000 := by have := hsm.1; have := unhide HN; omega
    have HL1 := hide hlo1
    have HRL := hide hrow
    obtain ⟨t, ht⟩ : ∃ t : T3, t = ⟨fun k => match k with | 0 => some ⟨g, 0, none⟩ | 1 => xa | _ => ta, fun k => match k with | 0 => lo | 1 => its.length | _ => n - hi, fun k => match k with | 0 => rc | 1 => xc | _ => rc - hi, fun k => match k with | 0 => icells (row.take lo) | 1 => icells its | _ => icells (row.drop hi)⟩ := ⟨_, rfl⟩
    have hT3 : t.In 3 w3 := by
      have hit : Cr 3 w3 (some ⟨g, 0, none⟩) n (icells row) := by have := (unhide HF3).items; unfold Is at this; rw [unhide HN] at this; exact this
      have hd := hit.drop (m := hi) (by omega) ta' (fun h => by have := (unhide HTA').2 h; simpa using this)
      rw [icells_drop, ← (unhide HTA').1] at hd
      have hk := hit.take (m := lo) (by omega)
      rw [icells_take] at hk
      subst ht
      refine ⟨fun k hk3 => ?_, fun k hk3 => ?_, fun k hk3 => ?_, fun k hk3 => ?_⟩
      · match k, hk3 with
        | 0, _ => exact hk
        | 1, _ => exact unhide HX3
        | 2, _ => exact hd
      · match k, hk3 with
        | 0, _ => exact icells_one _
        | 1, _ => exact icells_one _
        | 2, _ => exact icells_one _
      · match k, hk3 with
        | 0, _ => intro h; cases h
        | 1, _ => exact hxn
        | 2, _ => intro h; have := (unhide HTA').1; rw [show ta = none from h] at this; cases this
      · match k, hk3 with
        | 0, _ => exact hlo1.1
        | 1, _ => show its.length ≤ 1000; omega
        | 2, _ => exact hlo1.2
    have HT3 := hide hT3
    have hsum : t.sum 3 = lo + its.length + (n - hi) := by subst ht; simp [T3.sum]
    have hall : t.all 3 = icells (row.take lo ++ (its ++ row.drop hi)) := by subst ht; simp [T3.all, icells_append]
    have ht0 : t.a 0 = some ⟨g, 0, none⟩ ∧ t.n 0 = lo ∧ t.c 0 = rc ∧ t.a 1 = xa ∧ t.n 1 = its.length ∧ t.c 1 = xc ∧ t.a 2 = ta ∧ t.n 2 = n - hi ∧ t.c 2 = rc - hi := by subst ht; exact ⟨rfl, rfl, rfl, rfl, rfl, rfl, rfl, rfl, rfl⟩
    have HSUM := hide hsum
    have HALL := hide hall
    have HT0 := hide ht0
    have hlen : (row.take lo ++ (its ++ row.drop hi)).length = lo + its.length + (n - hi) := by
      rw [List.length_append, List.length_append, List.length_take, List.length_drop, unhide HN]; omega
    have HLEN := hide hlen
    have CCC := hide (fun (u : World) (hb : Below w3.heap.size w3 u) (q : Nat) (hq : ∀ k, k < 3 → u.cell? ⟨q, k, none⟩ = some (.slice (t.a k) (t.n k) (t.c k))) (hqw : q < u.heap.size) => concatI_any u q 3 3 t (by omega) hq hqw ((unhide HT3).below hb))
    clear hta hta' hlo1 hrow hT3 hsum hall ht0 hlen ht HT3
    refine AllReadyH.cons rfl (fun K hK => ?_) (AllReadyH.cons rfl (fun K hK => ?_) AllReadyH.nil)
    · go_simp
      refine hK.out _ _ hS0 (fun hS1 => ?_)
      clear hK K
      refine wpAnyH_take (i := 7) (v := ?_) rfl (by kernel_rfl) (by kernel_rfl) (by kernel_rfl) (fun _ _ _ h => h) (Or.inl ⟨by rfl, ?_⟩) hS1 ?_
      rotate_left
      · intro u hu; (try dsimp only at hu); go_simp; try with_reducible rfl
      simp only [Act.put, List.getElem_toArray, List.getElem_cons_zero, List.getElem_cons_succ, List.setIfInBounds_toArray, List.set_cons_zero, List.set_cons_succ]
      refine wpAnyH_ready (rs := [12]) (by kernel_rfl) (by simp) ?_
      refine AllReadyH.cons rfl (fun K hK => ?_) AllReadyH.nil
      go_simp
      refine hK.out _ _ hS1 (fun hS2 => ?_)
      clear hK K hS1
      refine wpAnyH_take (i := 15) (v := ?_) rfl (by kernel_rfl) (by kernel_rfl) (by kernel_rfl) (fun _ _ _ h => h) (Or.inl ⟨by rfl, ?_⟩) hS2 ?_
      rotate_left
      · intro u hu; (try dsimp only at hu); go_simp; try with_reducible rfl
      simp only [Act.put, List.getElem_toArray, List.getElem_cons_zero, List.getElem_cons_succ, List.setIfInBounds_toArray, List.set_cons_zero, List.set_cons_succ]
      rw [unhide HTA]
      refine wpAnyH_ready (rs := [16]) (by kernel_rfl) (by simp) ?_
      refine AllReadyH.cons rfl (fun K hK => ?_) AllReadyH.nil
      go_simp
      have hbu := b_al (w := w3) (.cells #[.slice (some ⟨g, 0, none⟩) lo rc, .slice xa its.length xc, .slice ta (n - hi) (rc - hi)] 33)
      have hux : (w3.alloc (.cells #[.slice (some ⟨g, 0, none⟩) lo rc, .slice xa its.length xc, .slice ta (n - hi) (rc - hi)] 33)).heap[w3.heap.size]? = some (.cells #[.slice (some ⟨g, 0, none⟩) lo rc, .slice xa its.length xc, .slice ta (n - hi) (rc - hi)] 33 (0, 0)) := (MapKept.heap_alloc _ _).1
      have hus : (w3.alloc (.cells #[.slice (some ⟨g, 0, none⟩) lo rc, .slice xa its.length xc, .slice ta (n - hi) (rc - hi)] 33)).heap.size = w3.heap.size + 1 := by simp
      obtain ⟨u, hu⟩ : ∃ u, w3.alloc (.cells #[.slice (some ⟨g, 0, none⟩) lo rc, .slice xa its.length xc, .slice ta (n - hi) (rc - hi)] 33) = u := ⟨_, rfl⟩
      rw [hu] at hbu hux hus ⊢
      have hbxu : u.heap[w.heap.size]? = some (.cells #[.int .i64 hd, .int .i64 ct, .int .i64 (lo : Nat), .int .i64 (hi : Nat)] 79 (0, 0)) := by rw [hbu.block _ (by omega)]; exact unhide HBX3
      have C5 := hide (unhide CCC u hbu w3.heap.size (fun k hk3 => by
        have hh := unhide HT0
        match k, hk3 with
        | 0, _ => rw [hh.1, hh.2.1, hh.2.2.1]; simp only [World.cell?, hux]; rfl
        | 1, _ => rw [hh.2.2.2.1, hh.2.2.2.2.1, hh.2.2.2.2.2.1]; simp only [World.cell?, hux]; rfl
        | 2, _ => rw [hh.2.2.2.2.2.2.1, hh.2.2.2.2.2.2.2.1, hh.2.2.2.2.2.2.2.2]; simp only [World.cell?, hux]; rfl) (by omega))
      have HBU := hide hbu
      have HUS := hide hus
      have HBXU := hide hbxu
      refine hK.out _ _ ⟨by simp only [World.cell?, hbxu]; rfl, by simp only [World.cell?, hbxu]; rfl⟩ (fun hS4 => ?_)
      clear hK K hS2 hu hux hbu hus hbxu CCC
      refine wpAnyH_ready (rs := [17]) (by kernel_rfl) (by simp) ?_
      refine AllReadyH.cons rfl (fun K hK => ?_) AllReadyH.nil
      go_simp
      refine (unhide C5).mono ?_
      rintro e w5 ⟨⟨v5, rfl, ho5⟩, hb5⟩
      rw [unhide HSUM, unhide HALL] at ho5
      have hb35 : Below w3.heap.size w3 w5 := (unhide HBU).trans (hb5.mono (unhide HBU).size)
      have hF5 := (unhide HF3).below hb35
      have hO5 := owns_below' (unhide HOB3) hb35
      have hB5 : Below w.heap.size w w5 := (unhide HB3).trans (hb35.mono (by omega))
      have hbx5 : w5.heap[w.heap.size]? = some (.cells #[.int .i64 hd, .int .i64 ct, .int .i64 (lo : Nat), .int .i64 (hi : Nat)] 79 (0, 0)) := by rw [hb35.block _ (by omega)]; exact unhide HBX3
      have hus2 : w3.heap.size + 1 ≤ u.heap.size := by rw [unhide HUS]; exact Nat.le_refl _
      have ho5' := owns_mono ho5 (base' := w3.heap.size) (by omega)
      obtain ⟨g5, c5, rfl⟩ := own_form ho5' (by omega)
      have hg5 := ho5'.lt g5 rfl
      obtain ⟨a5, c5', hv5, hc5, hn5, hI5, hlo5⟩ := cr_of_owns ho5' (by have := unhide HL1; omega)
      cases hv5
      have q5 : w5.cell? ⟨b, 0, none⟩ = some (.slice (some ⟨g, 0, none⟩) n rc) := by have := hF5.cells.1; rw [unhide HN] at this; exact this
      have f5 : w5.frozen? ⟨b, 0, none⟩ = false := hF5.fz 0
      have p52 : w5.cell? ⟨w.heap.size, 2, none⟩ = some (.int .i64 (lo : Nat)) := by simp only [World.cell?, hbx5]; rfl
      have p53 : w5.cell? ⟨w.heap.size, 3, none⟩ = some (.int .i64 (hi : Nat)) := by simp only [World.cell?, hbx5]; rfl
      have hsw5 : w3.heap.size ≤ w5.heap.size := hb35.size
      have HF5 := hide hF5
      have HO5 := hide hO5
      have HB5 := hide hB5
      have HI5 := hide hI5
      have HBX5 := hide hbx5
      have HC5 := hide hc5
      refine hK.out _ _ ⟨p52, p53⟩ (fun hS5 => ?_)
      clear hK K hS4 hF5 hO5 hB5 hI5 hbx5 C5 ho5 ho5' hb5 hb35 hn5 hlo5 hus2 HBU HUS HBXU hc5
      refine wpAnyH_take (i := 18) (v := ?_) rfl (by kernel_rfl) (by kernel_rfl) (by kernel_rfl) (fun _ _ _ h => h) (Or.inl ⟨by rfl, ?_⟩) hS5 ?_
      rotate_left
      · intro u hu; (try dsimp only at hu); go_simp; try with_reducible rfl
      simp only [Act.put, List.getElem_toArray, List.getElem_cons_zero, List.getElem_cons_succ, List.setIfInBounds_toArray, List.set_cons_zero, List.set_cons_succ]
      refine wpAnyH_take (i := 19) (v := ?_) rfl (by kernel_rfl) (by kernel_rfl) (by kernel_rfl) (fun _ _ _ h => h) (Or.inl ⟨by rfl, ?_⟩) hS5 ?_
      rotate_left
      · intro u hu; (try dsimp only at hu); go_simp; try with_reducible rfl
      simp only [Act.put, List.getElem_toArray, List.getElem_cons_zero, List.getElem_cons_succ, List.setIfInBounds_toArray, List.set_cons_zero, List.set_cons_succ]
      refine wpAnyH_ready (rs := [20]) (by kernel_rfl) (by simp) ?_
      refine AllReadyH.cons rfl (fun K hK => ?_) AllReadyH.nil
      go_simp
      have hB6 : Bz (min b N) (· = b) w (w5.setCell ⟨b, 0, none⟩ (.slice (some ⟨g5, 0, none⟩) (lo + its.length + (n - hi)) c5)) :=
        (Bz.of (unhide HB5) (Nat.le_trans (Nat.min_le_right _ _) hN)).trans (Bz.set (S := (· = b)) (B := min b N) (p := ⟨b, 0, none⟩) rfl (Nat.min_le_left _ _) (Nat.le_trans (Nat.min_le_right _ _) (Nat.le_trans hN (unhide HB5).size)) _)
      have hne6 : w.heap.size ≠ b := by omega
      have p62 : (w5.setCell ⟨b, 0, none⟩ (.slice (some ⟨g5, 0, none⟩) (lo + its.length + (n - hi)) c5)).cell? ⟨w.heap.size, 2, none⟩ = some (.int .i64 (lo : Nat)) := by rw [cell_set_far _ _ _ _ hne6]; exact p52
      have p63 : (w5.setCell ⟨b, 0, none⟩ (.slice (some ⟨g5, 0, none⟩) (lo + its.length + (n - hi)) c5)).cell? ⟨w.heap.size, 3, none⟩ = some (.int .i64 (hi : Nat)) := by rw [cell_set_far _ _ _ _ hne6]; exact p53
      have HB6 := hide hB6
      refine hK.out _ _ ⟨p62, p63⟩ (fun hS6 => ?_)
      clear hK K hS5 p52 p53 p62 p63
      refine wpAnyH_done (by kernel_rfl) ?_ _
      go_wp2_with fail
      go_ret
      have hfb := unhide HF5
      have h6 : ∀ i, i ≠ b → (w5.setCell ⟨b, 0, none⟩ (.slice (some ⟨g5, 0, none⟩) (lo + its.length + (n - hi)) c5)).heap[i]? = w5.heap[i]? := fun i hi => Below.heap_setCell _ _ _ _ hi
      have hs6 : (w5.setCell ⟨b, 0, none⟩ (.slice (some ⟨g5, 0, none⟩) (lo + its.length + (n - hi)) c5)).heap.size = w5.heap.size := by simp [World.setCell]
      have hwb : w.heap.size ≤ g5 := by omega
      refine ⟨⟨v, some ⟨g5, 0, none⟩, c5, rfl, ?_, ⟨?_, fun h => (by cases h), ?_, fun g' off he => (by cases he; exact ⟨by omega, rfl⟩), fun g' off he => (by cases he; refine ⟨by omega, fun h => ?_⟩; have := (hfb.own.lt g5 h).2; have h9 := (unhide HF3).own.lt g5 h; omega), ?_, ?_, hfb.pne, ?_⟩, fun g' off he => (by cases he; omega), by simp⟩, unhide HB6⟩
      · rw [show ((row.take hi).drop lo).length = hi - lo by rw [List.length_drop, List.length_take, unhide HN]; omega]
        exact owns_keep (unhide HO5) (fun i hi => h6 i (fun e => by have := ((unhide HO5).lt i hi).1; omega))
      · rw [unhide HLEN]; exact box_set hfb.box
      · rw [unhide HLEN]; exact unhide HC5
      · unfold Is
        rw [unhide HLEN]
        exact Cr.keep (unhide HI5) (by rw [hs6]; exact Nat.le_refl _) (fun i off he hi => by cases he; exact h6 _ (by omega))
      · exact owns_keep hfb.own (fun i hi => h6 i (fun e => hfb.pne (by rw [hi, e])))
      · rw [unhide HLEN, ← unhide HN]; exact ⟨htot, hsm.2⟩
    · go_simp
      refine hK.out _ _ hS0 (fun hS1 => ?_)
      clear hK K
      refine wpAnyH_take (i := 15) (v := ?_) rfl (by kernel_rfl) (by kernel_rfl) (by kernel_rfl) (fun _ _ _ h => h) (Or.inl ⟨by rfl, ?_⟩) hS1 ?_
      rotate_left
      · intro u hu; (try dsimp only at hu); go_simp; try with_reducible rfl
      simp only [Act.put, List.getElem_toArray, List.getElem_cons_zero, List.getElem_cons_succ, List.setIfInBounds_toArray, List.set_cons_zero, List.set_cons_succ]
      rw [unhide HTA]
      refine wpAnyH_ready (rs := [4]) (by kernel_rfl) (by simp) ?_
      refine AllReadyH.cons rfl (fun K hK => ?_) AllReadyH.nil
      go_simp
      refine hK.out _ _ hS1 (fun hS2 => ?_)
      clear hK K hS1
      refine wpAnyH_take (i := 7) (v := ?_) rfl (by kernel_rfl) (by kernel_rfl) (by kernel_rfl) (fun _ _ _ h => h) (Or.inl ⟨by rfl, ?_⟩) hS2 ?_
      rotate_left
      · intro u hu; (try dsimp only at hu); go_simp; try with_reducible rfl
      simp only [Act.put, List.getElem_toArray, List.getElem_cons_zero, List.getElem_cons_succ, List.setIfInBounds_toArray, List.set_cons_zero, List.set_cons_succ]
      refine wpAnyH_ready (rs := [16]) (by kernel_rfl) (by simp) ?_
      refine AllReadyH.cons rfl (fun K hK => ?_) AllReadyH.nil
      go_simp
      have hbu := b_al (w := w3) (.cells #[.slice (some ⟨g, 0, none⟩) lo rc, .slice xa its.length xc, .slice ta (n - hi) (rc - hi)] 33)
      have hux : (w3.alloc (.cells #[.slice (some ⟨g, 0, none⟩) lo rc, .slice xa its.length xc, .slice ta (n - hi) (rc - hi)] 33)).heap[w3.heap.size]? = some (.cells #[.slice (some ⟨g, 0, none⟩) lo rc, .slice xa its.length xc, .slice ta (n - hi) (rc - hi)] 33 (0, 0)) := (MapKept.heap_alloc _ _).1
      have hus : (w3.alloc (.cells #[.slice (some ⟨g, 0, none⟩) lo rc, .slice xa its.length xc, .slice ta (n - hi) (rc - hi)] 33)).heap.size = w3.heap.size + 1 := by simp
      obtain ⟨u, hu⟩ : ∃ u, w3.alloc (.cells #[.slice (some ⟨g, 0, none⟩) lo rc, .slice xa its.length xc, .slice ta (n - hi) (rc - hi)] 33) = u := ⟨_, rfl⟩
      rw [hu] at hbu hux hus ⊢
      have hbxu : u.heap[w.heap.size]? = some (.cells #[.int .i64 hd, .int .i64 ct, .int .i64 (lo : Nat), .int .i64 (hi : Nat)] 79 (0, 0)) := by rw [hbu.block _ (by omega)]; exact unhide HBX3
      have C5 := hide (unhide CCC u hbu w3.heap.size (fun k hk3 => by
        have hh := unhide HT0
        match k, hk3 with
        | 0, _ => rw [hh.1, hh.2.1, hh.2.2.1]; simp only [World.cell?, hux]; rfl
        | 1, _ => rw [hh.2.2.2.1, hh.2.2.2.2.1, hh.2.2.2.2.2.1]; simp only [World.cell?, hux]; rfl
        | 2, _ => rw [hh.2.2.2.2.2.2.1, hh.2.2.2.2.2.2.2.1, hh.2.2.2.2.2.2.2.2]; simp only [World.cell?, hux]; rfl) (by omega))
      have HBU := hide hbu
      have HUS := hide hus
      have HBXU := hide hbxu
      refine hK.out _ _ ⟨by simp only [World.cell?, hbxu]; rfl, by simp only [World.cell?, hbxu]; rfl⟩ (fun hS4 => ?_)
      clear hK K hS2 hu hux hbu hus hbxu CCC
      refine wpAnyH_ready (rs := [17]) (by kernel_rfl) (by simp) ?_
      refine AllReadyH.cons rfl (fun K hK => ?_) AllReadyH.nil
      go_simp
      refine (unhide C5).mono ?_
      rintro e w5 ⟨⟨v5, rfl, ho5⟩, hb5⟩
      rw [unhide HSUM, unhide HALL] at ho5
      have hb35 : Below w3.heap.size w3 w5 := (unhide HBU).trans (hb5.mono (unhide HBU).size)
      have hF5 := (unhide HF3).below hb35
      have hO5 := owns_below' (unhide HOB3) hb35
      have hB5 : Below w.heap.size w w5 := (unhide HB3).trans (hb35.mono (by omega))
      have hbx5 : w5.heap[w.heap.size]? = some (.cells #[.int .i64 hd, .int .i64 ct, .int .i64 (lo : Nat), .int .i64 (hi : Nat)] 79 (0, 0)) := by rw [hb35.block _ (by omega)]; exact unhide HBX3
      have hus2 : w3.heap.size + 1 ≤ u.heap.size := by rw [unhide HUS]; exact Nat.le_refl _
      have ho5' := owns_mono ho5 (base' := w3.heap.size) (by omega)
      obtain ⟨g5, c5, rfl⟩ := own_form ho5' (by omega)
      have hg5 := ho5'.lt g5 rfl
      obtain ⟨a5, c5', hv5, hc5, hn5, hI5, hlo5⟩ := cr_of_owns ho5' (by have := unhide HL1; omega)
      cases hv5
      have q5 : w5.cell? ⟨b, 0, none⟩ = some (.slice (some ⟨g, 0, none⟩) n rc) := by have := hF5.cells.1; rw [unhide HN] at this; exact this
      have f5 : w5.frozen? ⟨b, 0, none⟩ = false := hF5.fz 0
      have p52 : w5.cell? ⟨w.heap.size, 2, none⟩ = some (.int .i64 (lo : Nat)) := by simp only [World.cell?, hbx5]; rfl
      have p53 : w5.cell? ⟨w.heap.size, 3, none⟩ = some (.int .i64 (hi : Nat)) := by simp only [World.cell?, hbx5]; rfl
      have hsw5 : w3.heap.size ≤ w5.heap.size := hb35.size
      have HF5 := hide hF5
      have HO5 := hide hO5
      have HB5 := hide hB5
      have HI5 := hide hI5
      have HBX5 := hide hbx5
      have HC5 := hide hc5
      refine hK.out _ _ ⟨p52, p53⟩ (fun hS5 => ?_)
      clear hK K hS4 hF5 hO5 hB5 hI5 hbx5 C5 ho5 ho5' hb5 hb35 hn5 hlo5 hus2 HBU HUS HBXU hc5
      refine wpAnyH_take (i := 18) (v := ?_) rfl (by kernel_rfl) (by kernel_rfl) (by kernel_rfl) (fun _ _ _ h => h) (Or.inl ⟨by rfl, ?_⟩) hS5 ?_
      rotate_left
      · intro u hu; (try dsimp only at hu); go_simp; try with_reducible rfl
      simp only [Act.put, List.getElem_toArray, List.getElem_cons_zero, List.getElem_cons_succ, List.setIfInBounds_toArray, List.set_cons_zero, List.set_cons_succ]
      refine wpAnyH_take (i := 19) (v := ?_) rfl (by kernel_rfl) (by kernel_rfl) (by kernel_rfl) (fun _ _ _ h => h) (Or.inl ⟨by rfl, ?_⟩) hS5 ?_
      rotate_left
      · intro u hu; (try dsimp only at hu); go_simp; try with_reducible rfl
      simp only [Act.put, List.getElem_toArray, List.getElem_cons_zero, List.getElem_cons_succ, List.setIfInBounds_toArray, List.set_cons_zero, List.set_cons_succ]
      refine wpAnyH_ready (rs := [20]) (by kernel_rfl) (by simp) ?_
      refine AllReadyH.cons rfl (fun K hK => ?_) AllReadyH.nil
      go_simp
      have hB6 : Bz (min b N) (· = b) w (w5.setCell ⟨b, 0, none⟩ (.slice (some ⟨g5, 0, none⟩) (lo + its.length + (n - hi)) c5)) :=
        (Bz.of (unhide HB5) (Nat.le_trans (Nat.min_le_right _ _) hN)).trans (Bz.set (S := (· = b)) (B := min b N) (p := ⟨b, 0, none⟩) rfl (Nat.min_le_left _ _) (Nat.le_trans (Nat.min_le_right _ _) (Nat.le_trans hN (unhide HB5).size)) _)
      have hne6 : w.heap.size ≠ b := by omega
      have p62 : (w5.setCell ⟨b, 0, none⟩ (.slice (some ⟨g5, 0, none⟩) (lo + its.length + (n - hi)) c5)).cell? ⟨w.heap.size, 2, none⟩ = some (.int .i64 (lo : Nat)) := by rw [cell_set_far _ _ _ _ hne6]; exact p52
      have p63 : (w5.setCell ⟨b, 0, none⟩ (.slice (some ⟨g5, 0, none⟩) (lo + its.length + (n - hi)) c5)).cell? ⟨w.heap.size, 3, none⟩ = some (.int .i64 (hi : Nat)) := by rw [cell_set_far _ _ _ _ hne6]; exact p53
      have HB6 := hide hB6
      refine hK.out _ _ ⟨p62, p63⟩ (fun hS6 => ?_)
      clear hK K hS5 p52 p53 p62 p63
      refine wpAnyH_done (by kernel_rfl) ?_ _
      go_wp2_with fail
      go_ret
      have hfb := unhide HF5
      have h6 : ∀ i, i ≠ b → (w5.setCell ⟨b, 0, none⟩ (.slice (some ⟨g5, 0, none⟩) (lo + its.length + (n - hi)) c5)).heap[i]? = w5.heap[i]? := fun i hi => Below.heap_setCell _ _ _ _ hi
      have hs6 : (w5.setCell ⟨b, 0, none⟩ (.slice (some ⟨g5, 0, none⟩) (lo + its.length + (n - hi)) c5)).heap.size = w5.heap.size := by simp [World.setCell]
      have hwb : w.heap.size ≤ g5 := by omega
      refine ⟨⟨v, some ⟨g5, 0, none⟩, c5, rfl, ?_, ⟨?_, fun h => (by cases h), ?_, fun g' off he => (by cases he; exact ⟨by omega, rfl⟩), fun g' off he => (by cases he; refine ⟨by omega, fun h => ?_⟩; have := (hfb.own.lt g5 h).2; have h9 := (unhide HF3).own.lt g5 h; omega), ?_, ?_, hfb.pne, ?_⟩, fun g' off he => (by cases he; omega), by simp⟩, unhide HB6⟩
      · rw [show ((row.take hi).drop lo).length = hi - lo by rw [List.length_drop, List.length_take, unhide HN]; omega]
        exact owns_keep (unhide HO5) (fun i hi => h6 i (fun e => by have := ((unhide HO5).lt i hi).1; omega))
      · rw [unhide HLEN]; exact box_set hfb.box
      · rw [unhide HLEN]; exact unhide HC5
      · unfold Is
        rw [unhide HLEN]
        exact Cr.keep (unhide HI5) (by rw [hs6]; exact Nat.le_refl _) (fun i off he hi => by cases he; exact h6 _ (by omega))
      · exact owns_keep hfb.own (fun i hi => h6 i (fun e => hfb.pne (by rw [hi, e])))
      · rw [unhide HLEN, ← unhide HN]; exact ⟨htot, hsm.2⟩
end Go.Proofs.Ytdkchihomllokaa


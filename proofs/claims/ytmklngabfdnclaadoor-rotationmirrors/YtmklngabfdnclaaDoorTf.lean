/-
  The contract of the program's takeFace: a round of half edges, which are gone behind it. Conditions: the row of what comes behind what lies in memory as told, and may be written.
-/
import Derived.Test.YtmklngabfdnclaaDoorOt
namespace Go.Proofs.YtmklngabfdnclaaDoor
open Go.RowKit
set_option linter.unusedVariables false
set_option maxRecDepth 20000

/-- the row of what comes behind what, without what is gone -/
def nz (N : Nat → Nat) (G : Nat → Bool) (j : Nat) : Int := if G j then -1 else (N j : Int)
theorem nz_gone {N : Nat → Nat} {G : Nat → Bool} {j : Nat} (h : G j) : nz N G j = -1 := if_pos h
theorem nz_here {N : Nat → Nat} {G : Nat → Bool} {j : Nat} (h : ¬ G j) : nz N G j = (N j : Int) := if_neg h
/-- gone before, or in a list -/
def gq (G : Nat → Bool) (l : List Nat) (j : Nat) : Bool := G j || l.contains j
theorem gq_iff {G : Nat → Bool} {l : List Nat} {j : Nat} : gq G l j = true ↔ (G j = true ∨ j ∈ l) := by simp [gq]
theorem nz_congr {N : Nat → Nat} {G G' : Nat → Bool} {j : Nat} (h : G j ↔ G' j) : nz N G j = nz N G' j := by
  by_cases hG : G j
  · rw [nz_gone hG, nz_gone (h.1 hG)]
  · rw [nz_here hG, nz_here (fun h' => hG (h.2 h'))]
def slen : Value → Nat
  | .slice _ n _ => n
  | _ => 0
theorem slen_owns {w : World} {base : Nat} {v : Value} {n : Nat} {xs : List Value} {e : TypeId} {k : Nat} (h : w.ownsRow base e k v n xs) : slen v = n := by
  rcases h.2 with ⟨rfl, h0⟩ | ⟨g, cap, cur, rfl, _⟩
  · simp [slen]; omega
  · rfl
def its (N : Nat → Nat) (h t : Nat) : List Nat := (List.range t).map fun s => it N s h
theorem its_succ (N : Nat → Nat) (h t : Nat) : its N h (t + 1) = its N h t ++ [it N t h] := by simp [its, List.range_succ]
theorem its_length (N : Nat → Nat) (h t : Nat) : (its N h t).length = t := by simp [its]
theorem mem_its {N : Nat → Nat} {h t j : Nat} : j ∈ its N h t ↔ ∃ s, s < t ∧ it N s h = j := by simp [its]
theorem orb_its (N : Nat → Nat) (H h : Nat) : orb N H h = its N h (pr N H h + 1) := rfl

/-- what is left as it was by one that writes into block g alone and lays new memory -/
structure But (g : Nat) (w w' : World) : Prop where
  bel : Below g w w'
  size : w.heap.size ≤ w'.heap.size
  far : ∀ i, i < w.heap.size → i ≠ g → w'.heap[i]? = w.heap[i]?
theorem But.refl (g : Nat) (w : World) : But g w w := ⟨Below.refl _ _, Nat.le_refl _, fun _ _ _ => rfl⟩
theorem But.trans {g : Nat} {a b c : World} (h : But g a b) (k : But g b c) : But g a c :=
  ⟨h.bel.trans k.bel, Nat.le_trans h.size k.size, fun i h1 h2 => by rw [k.far i (Nat.lt_of_lt_of_le h1 h.size) h2, h.far i h1 h2]⟩
theorem But.of {g : Nat} {w w' : World} (h : Below w.heap.size w w') (hg : g ≤ w.heap.size) : But g w w' := ⟨h.mono hg, h.size, fun i h1 _ => h.block i h1⟩
theorem But.set {g : Nat} {w : World} (o : Nat) (v : Value) : But g w (w.setCell ⟨g, o, none⟩ v) :=
  ⟨(Below.refl _ _).setCell (p := ⟨g, o, none⟩) (Nat.le_refl _) _, by simp [World.setCell], fun i _ h2 => Below.heap_setCell _ _ _ _ h2⟩

theorem but_grown {g : Nat} {w wr w7 : World} {o : Obj} {own : Option Nat} (hB : But g w wr) (hg : (wr.alloc o).grownBy w7 own) (hown : ∀ t, own = some t → w.heap.size ≤ t) (hgl : g < w.heap.size) : But g w w7 ∧ w7.heap[g]? = wr.heap[g]? := by
  have hs : (wr.alloc o).heap.size = wr.heap.size + 1 := by simp
  have hsz := hB.size
  have hs7 := hg.size
  have key : ∀ i, i < w.heap.size → w7.heap[i]? = wr.heap[i]? := fun i hi => by
    rw [hg.block i (by omega) (fun e => by have := hown i e.symm; omega)]
    exact Below.heap_alloc wr o i (by omega)
  refine ⟨⟨⟨hg.os.trans hB.bel.os, hg.tape.trans hB.bel.tape, hg.output.trans hB.bel.output, by omega, fun i hi => ?_⟩, by omega, fun i h1 h2 => by rw [key i h1, hB.far i h1 h2]⟩, key g hgl⟩
  rw [key i (by omega)]
  exact hB.bel.block i hi

set_option maxHeartbeats 4000000 in
theorem take_any (w : World) (g H cap : Nat) (N : Nat → Nat) (p : Pm N H) (hH : H ≤ 256) (G : Nat → Bool) (hr : RowZ w g H (nz N G)) (hG : ∀ j, j < H → (G (N j) ↔ G j)) (h : Nat) (hh : h < H) (hgh : ¬ G h) :
    Calls Tryd.prog 18 #[.slice (some ⟨g, 0, none⟩) H cap, .int .i64 (h : Nat)] w fun e w' => (∃ v, e = .returned v ∧ w'.ownsRow w.heap.size 3 1 v (orb N H h).length (zcells (toIs (orb N H h)))) ∧ RowZ w' g H (nz N (gq G (orb N H h))) ∧ But g w w' := by
  obtain ⟨hp1, hp2, hp3⟩ := p.pr hh
  have hnd := p.orb_nodup hh
  have hgl := hr.lt
  have hGt : ∀ t, ¬ G (it N t h) := by
    intro t
    induction t with
    | zero => exact hgh
    | succ t ih => exact fun hc => ih ((hG _ (p.it_lt hh t)).1 hc)
  have hdis : ∀ t, t ≤ pr N H h → it N t h ∉ its N h t := by
    intro t ht hc
    obtain ⟨s, hs, he⟩ := mem_its.1 hc
    refine hp3 (t - s - 1) (by omega) ?_
    rw [show t - s - 1 + 1 = t - s by omega]
    exact p.back hh (Nat.le_of_lt hs) he
  have hlt : ∀ t, it N t h < H := p.it_lt hh
  obtain ⟨P, hP⟩ : ∃ P, pr N H h = P := ⟨_, rfl⟩
  have horb : orb N H h = its N h (P + 1) := by rw [orb_its, hP]
  rw [hP] at hp1 hp2 hdis
  rw [horb]
  have HG := hide hGt
  have HD := hide hdis
  have HLT := hide hlt
  have HP2 := hide hp2
  have HR0 := hide (show RowZ w g H (nz N (gq G (its N h 0))) from Row.congr hr fun t ht => congrArg (Value.int .i64) (nz_congr (by rw [gq_iff]; simp [its])))
  have HO0 := hide (show w.ownsRow w.heap.size 3 1 (.slice none 0 0) 0 (zcells (toIs (its N h 0))) from World.ownsRow_nil _ _ _ _)
  have HB0 := hide (But.refl g w)
  obtain ⟨i0, hi0, hz0, hz1, hz2⟩ := info_parts info3
  have HI := hide hi0
  have HZ0 := hide hz0
  have HZ1 := hide hz1
  have HZ2 := hide hz2
  clear hi0 hz0 hz1 hz2 hr hG hGt hdis hlt hp2 hp3 horb hnd hgh p hP
  go_enter Tryd.func18, Tryd.ntmps18
  go_wp2_with fail
  go_loopw [1, 5] (fun v1 v5 wr => ∃ t : Nat, v1 = .int .i64 (it N t h : Nat) ∧ t ≤ P + 1 ∧ Hid (wr.ownsRow w.heap.size 3 1 v5 t (zcells (toIs (its N h t)))) ∧ Hid (RowZ wr g H (nz N (gq G (its N h t)))) ∧ Hid (But g w wr)) (fun v1 v5 wr => P + 1 - slen v5)
  case atStart => exact ⟨0, rfl, by omega, HO0, HR0, HB0⟩
  case round =>
    clear HO0 HR0 HB0
    obtain ⟨t, rfl, ht, HO, HR, HB⟩ := hrel
    have hx := unhide HLT t
    have r0 := (unhide HR).cell hx
    have r1 := (unhide HR).fz (it N t h)
    have hsl := slen_owns (unhide HO)
    have hsz := (unhide HB).size
    by_cases htP : t ≤ P
    · have hno : ¬ gq G (its N h t) (it N t h) = true := fun hc => (gq_iff.1 hc).elim (unhide HG t) (unhide HD t htP)
      rw [nz_here hno] at r0
      have HNO := hide hno
      obtain ⟨x, hxe⟩ : ∃ x, it N t h = x := ⟨_, rfl⟩
      obtain ⟨y, hye⟩ : ∃ y, N x = y := ⟨_, rfl⟩
      have HXE := hide hxe
      have HYE := hide hye
      rw [hxe] at hx r0 r1
      rw [hye] at r0
      have hx2 : (x : Int) < (H : Int) := by omega
      have t1 : ((y : Int) != (-1 : Int)) = true := by simp
      rw [hxe]
      clear hno hxe hye
      go_wp2_with (at_builtin; refine wpList_append_own _ rfl (.tmp 12) (.tmp 14) 36 rfl w.heap.size 3 i0 (.int .i64 0) 1 8 Tryd.underlying36 (unhide HI) (unhide HZ0) (unhide HZ1) (unhide HZ2) rfl (by decide) u5 t (zcells (toIs (its N h t))) rfl ((unhide HO).alloc _) ⟨wr.heap.size, 0, none⟩ 1 1 [.int .i64 (x : Int)] rfl rfl (cell_one_new _ _ _) (one_i (x : Int)) ?a3 ?a4 ?a5 ?_)
      case a3 => unfold maxLen; omega
      case a4 => omega
      case a5 => simp; omega
      intro v2 w7 hown7 hg7 _
      rw [zcells_snoc, toIs_snoc, ← unhide HXE, ← its_succ] at hown7
      obtain ⟨hb7, hgk⟩ := but_grown (unhide HB) hg7 (fun b hb => ((unhide HO).lt b hb).1) hgl
      have HR7 := hide ((unhide HR).keep hgk)
      have HO7 := hide hown7
      have HB7 := hide hb7
      have q0 := (unhide HR7).cell (unhide HLT t)
      have q1 := (unhide HR7).fz (it N t h)
      rw [nz_here (unhide HNO), unhide HXE, unhide HYE] at q0
      rw [unhide HXE] at q1
      have HS7 := hide (hb7.size)
      have hg7s : g < w7.heap.size := Nat.lt_of_lt_of_le hgl hb7.size
      have HO8 := hide (show (w7.setCell ⟨g, x, none⟩ (.int .i64 (-1))).ownsRow w.heap.size 3 1 v2 (t + 1) (zcells (toIs (its N h (t + 1)))) from owns_keep hown7 fun b hb => Below.heap_setCell _ _ _ _ (by have := (hown7.lt b hb).1; show b ≠ g; omega))
      have HR8 := hide (show RowZ (w7.setCell ⟨g, x, none⟩ (.int .i64 (-1))) g H (nz N (gq G (its N h (t + 1)))) from
        Row.congr (RowZ.set (unhide HR7) x (-1)) fun j hj => congrArg (Value.int .i64) (by
          unfold upd
          by_cases hjx : j = x
          · rw [if_pos hjx, nz_gone]
            rw [gq_iff]
            right
            rw [its_succ, hjx, ← unhide HXE]
            simp
          · rw [if_neg hjx]
            refine nz_congr ?_
            rw [gq_iff, gq_iff, its_succ, unhide HXE]
            simp [hjx]))
      have HB8 := hide (hb7.trans (But.set x (.int .i64 (-1))))
      have hitS : it N (t + 1) h = y := by show N (it N t h) = y; rw [unhide HXE, unhide HYE]
      have HIS := hide hitS
      have hsl2 := slen_owns hown7
      clear hown7 hg7 hb7 hgk hitS r0 r1
      go_wp2_with fail
      go_roundw
      case rel => exact ⟨t + 1, by rw [unhide HIS], by omega, HO8, HR8, HB8⟩
      case measure => omega
    · obtain rfl : t = P + 1 := by omega
      have hgone : gq G (its N h (P + 1)) (it N (P + 1) h) = true := gq_iff.2 (.inr (mem_its.2 ⟨0, by omega, by rw [unhide HP2]; rfl⟩))
      rw [nz_gone hgone, unhide HP2] at r0
      rw [unhide HP2] at r1 hx
      rw [unhide HP2]
      have hx2 : (h : Int) < (H : Int) := by omega
      have hlen := its_length N h (P + 1)
      have HLE := hide hlen
      clear hgone hlen
      go_wp2_with fail
      go_ret
      exact ⟨⟨_, rfl, by rw [unhide HLE]; exact unhide HO⟩, unhide HR, unhide HB⟩
end Go.Proofs.YtmklngabfdnclaaDoor


/-
  The contract of lines.Numbers. Conditions: the text has at most a million bytes.
-/
import Derived.Test.YtdcfhdpbpfgohaaGraph
namespace Go.Proofs.Ytdcfhdpbpfgohaa
open Go.RowKit
set_option linter.unusedVariables false

theorem info3 : (Try.prog.info? 3).map (fun i => (i.zero, i.size, i.bytes)) = some (some (.int .i64 0), 1, 8) := by kernel_rfl

theorem owns_mono {w : World} {base base' : Nat} {e : TypeId} {size : Nat} {v : Value} {n : Nat} {xs : List Value} (h : w.ownsRow base e size v n xs) (hb : base' ≤ base) : w.ownsRow base' e size v n xs :=
  ⟨h.1, h.2.imp id fun ⟨g, cap, cur, h1, h2, h3⟩ => ⟨g, cap, cur, h1, Nat.le_trans hb h2, h3⟩⟩

def icells (xs : List Nat) : List Value := xs.map fun (x : Nat) => Value.int .i64 (x : Int)

/-- what holds at a round's head -/
structure NRel (w wr : World) (s : ByteArray) (j : Nat) (v : Value) (acc : List Nat) : Prop where
  rd : Rd wr w.heap.size s j
  bel : Below w.heap.size w wr
  own : wr.ownsRow (w.heap.size + 1) 3 1 v acc.length (icells acc)
  le : acc.length ≤ j

theorem NRel.start (w : World) (s : ByteArray) : NRel w (w.alloc (.cells #[.string s, .int .i64 0] 47)) s 0 (.slice none 0 0) [] := by
  refine ⟨(MapKept.heap_alloc w _).1, (Below.refl _ _).alloc (Nat.le_refl _) _, World.ownsRow_nil _ _ _ _, Nat.le_refl _⟩
theorem NRel.adv {w wr w2 : World} {s : ByteArray} {j j2 : Nat} {v : Value} {acc : List Nat} (h : NRel w wr s j v acc) (ha : Adv w.heap.size wr w2) (hr : Rd w2 w.heap.size s j2) (hj : j ≤ j2) : NRel w w2 s j2 v acc :=
  ⟨hr, h.bel.trans (ha.below (Nat.le_refl _)), ownsRow_adv h.own ha (by omega), Nat.le_trans h.le hj⟩
theorem NRel.step {w wr w4 : World} {s : ByteArray} {j : Nat} {v v2 : Value} {acc : List Nat} {x : Nat} (h : NRel w wr s j v acc) (hj : acc.length < j)
    (hg : (wr.alloc (.cells #[.int .i64 x] 3)).grownBy w4 v.ownBlock) (ho : w4.ownsRow (w.heap.size + 1) 3 1 v2 (acc.length + 1) (icells acc ++ [.int .i64 x])) :
    NRel w w4 s j v2 (acc ++ [x]) := by
  have hlt : ∀ g, v.ownBlock = some g → w.heap.size + 1 ≤ g := fun g hv => (h.own.lt g hv).1
  have hb : w.heap.size < wr.heap.size := (Array.getElem?_eq_some_iff.1 h.rd).1
  have hblk : ∀ i, i < w.heap.size + 1 → w4.heap[i]? = wr.heap[i]? := by
    intro i hi
    rw [hg.block i (by simp; omega) (fun he => by have := hlt i he.symm; omega)]
    exact Below.heap_alloc _ _ _ (by omega)
  refine ⟨?_, ?_, ?_, by simp; omega⟩
  · have := h.rd
    unfold Rd at this ⊢
    rw [hblk _ (by omega)]
    exact this
  · exact h.bel.trans ⟨hg.os, hg.tape, hg.output, by have := hg.size; simp at this; omega, fun i hi => hblk i (by omega)⟩
  · simpa [icells] using ho

set_option maxHeartbeats 1000000 in
theorem numbers_empty (w : World) (s : ByteArray) (hs : s.toList.isEmpty = true) :
    Calls Try.prog 10 #[.string s] w fun e w' => e = .returned (.tuple #[.slice none 0 0, .bool true]) ∧ w' = w := by
  go_enter Try.func10, Try.ntmps10
  go_wp2
  go_ret2
  exact ⟨rfl, rfl⟩

set_option maxHeartbeats 2000000 in
theorem numbers_loop (w : World) (s : ByteArray) (hs : s.size ≤ 1000000) (he : s.toList.isEmpty = false) (r : Option (List Nat)) (hr : Pl.numsF (s.data.toList.length + 1) s.data.toList = r) :
    Calls Try.prog 10 #[.string s] w fun e w' => (∃ v, e = .returned (.tuple #[v, .bool r.isSome]) ∧ w'.ownsRow w.heap.size 3 1 v (r.getD []).length (icells (r.getD []))) ∧ Below w.heap.size w w' := by
  have hlen : s.data.toList.length = s.size := by rw [Array.length_toList]; rfl
  have hs3 : s.size ≤ maxLen := by unfold maxLen; omega
  obtain ⟨i0, hi0, hz0, hz1, hz2⟩ := info_parts info3
  have HI := hide hi0
  have HZ0 := hide hz0
  have HZ1 := hide hz1
  have HZ2 := hide hz2
  have Hr := hide hr
  have HL := hide hlen
  clear hi0 hz0 hz1 hz2 hr hlen
  go_enter Try.func10, Try.ntmps10
  go_wp2_with fail
  go_loopw [5] (fun v wr => ∃ (j f : Nat) (acc : List Nat), NRel w wr s j v acc ∧ j ≤ s.size ∧ s.size - j < f ∧ (Pl.numsF f (s.data.toList.drop j)).map (acc ++ ·) = r) (fun v wr => s.size + 1 - posOf wr w.heap.size)
  case atStart => exact ⟨0, s.data.toList.length + 1, [], NRel.start w s, by omega, by rw [unhide HL]; omega, by rw [List.drop_zero, unhide Hr]; simp⟩
  case round =>
    obtain ⟨j, f, acc, hR, hj, hf, hq⟩ := hrel
    obtain ⟨f, rfl⟩ : ∃ f', f = f' + 1 := ⟨f - 1, by omega⟩
    have HR := hide hR
    have hrd := hR.rd
    have hacc := hR.le
    have hbw : w.heap.size < wr.heap.size := (Array.getElem?_eq_some_iff.1 hR.rd).1
    have HQ := hide hq
    clear hR hq
    have hdl : (s.data.toList.drop j).length = s.size - j := by rw [List.length_drop, unhide HL]
    cases hnum : Pl.num (s.data.toList.drop j) with
    | none =>
      have hq := unhide HQ
      rw [Pl.numsF_none hnum] at hq
      have H1 := hide hnum
      simp only [Option.map_none] at hq
      subst hq
      clear hnum hdl
      go_wp2_with fail
      refine (number_no _ _ s j hrd hs3 hj (unhide H1)).mono ?_
      rintro e w2 ⟨rfl, n, rfl⟩
      go_wp2_with fail
      go_ret2
      exact ⟨⟨_, rfl, World.ownsRow_nil _ _ _ _⟩, below_draws (unhide HR).bel n⟩
    | some vk =>
      obtain ⟨x, k⟩ := vk
      have hle := Pl.num_le hnum
      rw [hdl] at hle
      have H1 := hide hnum
      have HDL := hide hdl
      clear hdl
      go_wp2_with fail
      refine (number_yes _ _ s j x k hrd hs3 (unhide H1)).mono ?_
      rintro e w2 ⟨rfl, hr2, ha2⟩
      have R2 := (unhide HR).adv ha2 hr2 (by omega)
      have HR2 := hide R2
      have HOWN := hide R2.own
      have hbw2 : w.heap.size < w2.heap.size := (Array.getElem?_eq_some_iff.1 R2.rd).1
      clear R2 ha2 hnum
      go_wp2_with (at_builtin; refine wpList_append_own _ rfl (.tmp 18) (.tmp 20) 28 rfl (w.heap.size + 1) 3 i0 (.int .i64 0) 1 8 Try.underlying28 (unhide HI) (unhide HZ0) (unhide HZ1) (unhide HZ2) rfl (by decide) u5 acc.length (icells acc) rfl ((unhide HOWN).alloc _) ⟨w2.heap.size, 0, none⟩ 1 1 [.int .i64 x] rfl rfl ?c1 ?c2 ?c3 ?c4 ?c5 ?_)
      case c1 => exact cell_one_new _ _ _
      case c2 => intro u hu; simp at hu; subst hu; rfl
      case c3 => unfold maxLen; omega
      case c4 => omega
      case c5 => simp; omega
      intro v2 w4 hown4 hg4 _
      have R4 := (unhide HR2).step (by omega) hg4 hown4
      have hr4 := R4.rd
      have HR4 := hide R4
      clear R4 hown4 hg4 hr2 hrd
      by_cases hend : j + k < s.size
      · by_cases hbl : (s.data.toList.drop (j + k)).head? = some 32
        · have hq := unhide HQ
          rw [Pl.numsF_go (unhide H1) (by rw [unhide HDL]; omega) (by rw [List.drop_drop]; exact hbl), List.drop_drop] at hq
          have HQ2 := hide hq
          have HB := hide hbl
          clear hq hbl
          go_wp2_with fail
          refine (ended_no _ _ s (j + k) hr4 hs3 hend).mono ?_
          rintro e w5 ⟨rfl, n, rfl⟩
          go_wp2_with fail
          refine (take_is _ _ s (j + k) 32 _ (by rfl) (hr4.drewN n) hs3 (unhide HB)).mono ?_
          rintro e w6 ⟨rfl, hr6, ha6⟩
          go_wp2_with fail
          go_roundw
          case rel =>
            refine ⟨j + k + 1, f, acc ++ [x], (unhide HR4).adv (((Adv.refl _ _).drewN n).trans ha6) hr6 (by omega), by omega, by omega, ?_⟩
            rw [← unhide HQ2, Option.map_map, Nat.add_assoc]
            congr 1
            funext l
            simp
          case measure =>
            rw [posOf_rd hr6, posOf_rd (unhide HR).rd]
            omega
        · have hq := unhide HQ
          rw [Pl.numsF_stop (unhide H1) (by rw [unhide HDL]; omega) (by rw [List.drop_drop]; exact hbl)] at hq
          simp only [Option.map_none] at hq
          subst hq
          have HB := hide hbl
          clear hbl
          go_wp2_with fail
          refine (ended_no _ _ s (j + k) hr4 hs3 hend).mono ?_
          rintro e w5 ⟨rfl, n, rfl⟩
          go_wp2_with fail
          refine (take_not _ _ s (j + k) 32 _ (by rfl) (hr4.drewN n) hs3 (by omega) (unhide HB)).mono ?_
          rintro e w6 ⟨rfl, n2, rfl⟩
          go_wp2_with fail
          go_ret2
          exact ⟨⟨_, rfl, World.ownsRow_nil _ _ _ _⟩, below_draws (unhide HR4).bel _⟩
      · have hq := unhide HQ
        rw [Pl.numsF_last (unhide H1) (by rw [unhide HDL]; omega)] at hq
        simp only [Option.map_some] at hq
        subst hq
        go_wp2_with fail
        refine (ended_yes _ _ s (j + k) hr4 hs3 hend (by omega)).mono ?_
        rintro e w5 ⟨rfl, n, rfl⟩
        go_wp2_with fail
        go_ret2
        exact ⟨⟨_, rfl, owns_mono (unhide HR4).own (by omega)⟩, below_draws (unhide HR4).bel n⟩
end Go.Proofs.Ytdcfhdpbpfgohaa

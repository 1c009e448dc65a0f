/-
  The contracts of slices.Grow at nil and of slices.Concat at two rows of ints, whichever they are. Conditions: the rows lie in memory as told.
-/
import Derived.Test.YtbecmaandhadhaaCc
import Derived.Laws.AppendOwnNone
namespace Go.Proofs.Ytbecmaandhadhaa
open Go.RowKit
set_option linter.unusedVariables false
set_option maxRecDepth 20000

set_option maxHeartbeats 1000000 in
theorem grow_zero (w : World) : Calls Try.prog 53 #[.slice none 0 0, .int .i64 0] w fun e w' => (∃ v, e = .returned v ∧ w'.ownsRow w.heap.size 3 1 v 0 []) ∧ Below w.heap.size w w' := by
  go_enter Try.func53, Try.ntmps53
  go_wp2
  go_ret
  exact ⟨⟨_, rfl, World.ownsRow_nil _ _ _ _⟩, Below.refl _ _⟩
theorem grow_any (w : World) (n : Nat) (hn : n ≤ 1000000) :
    Calls Try.prog 53 #[.slice none 0 0, .int .i64 n] w fun e w' => (∃ v, e = .returned v ∧ w'.ownsRow w.heap.size 3 1 v 0 []) ∧ Below w.heap.size w w' := by
  by_cases h : n = 0
  · subst h
    exact grow_zero w
  · exact grow_nil w n (by omega) hn

/-- append onto an own row of ints, of any row of ints -/
theorem wpList_app_ints {w : World} {ops : Array Oper} {rest : List Oper} {o : Oper} {a : Act} {Q : Exit → Act → World → Prop} (hgd : o.guard = none) (s x : Operand)
    (ho : o.op = .call { callee := .builtin .append, args := #[s, x], argTypes := #[29, 29] }) (base : Nat) (v : Value) (n : Nat) (xs : List Int) (hs : a.eval s = v) (hown : w.ownsRow base 3 1 v n (zcells xs))
    (ad : Option Addr) (m c : Nat) (ys : List Int) (hx : a.eval x = .slice ad m c) (hno : ad = none → m = 0 ∧ c = 0) (hys : Ns w ad m ys) (hb : n + m ≤ 1000000) (hbase : base ≤ w.heap.size)
    (h : ∀ v' w', w'.ownsRow base 3 1 v' (n + m) (zcells (xs ++ ys)) → w.grownBy w' v.ownBlock → wpList Try.prog ops Q rest (a.put o.dst v') w') : wpList Try.prog ops Q (o :: rest) a w := by
  obtain ⟨i0, hi0, hz0, hz1, hz2⟩ := info_parts info3
  cases ad with
  | none =>
    obtain ⟨rfl, rfl⟩ := hno rfl
    refine wpList_append_own_none hgd s x 29 ho base 3 i0 1 Try.underlying29 hi0 v n (zcells xs) hs hown hx (h v w ?_ ⟨rfl, rfl, rfl, Nat.le_refl _, fun _ _ _ => rfl⟩)
    have : ys = [] := by have := hys.1; simpa using this
    subst this
    rw [List.append_nil]
    exact hown
  | some p =>
    refine wpList_append_own w hgd s x 29 ho base 3 i0 (.int .i64 0) 1 8 Try.underlying29 hi0 hz0 hz1 hz2 rfl (by decide) v n (zcells xs) hs hown p m c (zcells ys) hx (by rw [zcells_length, hys.1]; omega) hys.cells (zcells_one ys) (by unfold maxLen; omega) (by omega) hbase ?_
    intro v' w' ho' hg _
    refine h v' w' ?_ hg
    rw [show zcells (xs ++ ys) = zcells xs ++ zcells ys by simp [zcells]]
    exact ho'

set_option maxHeartbeats 2000000 in
theorem concat_any (w : World) (q cq : Nat) (a1 a2 : Option Addr) (n1 c1 n2 c2 : Nat) (xs ys : List Int) (hq0 : w.cell? ⟨q, 0, none⟩ = some (.slice a1 n1 c1)) (hq1 : w.cell? ⟨q, 1, none⟩ = some (.slice a2 n2 c2)) (hq : q < w.heap.size)
    (h1 : Ns w a1 n1 xs) (h2 : Ns w a2 n2 ys) (hno1 : a1 = none → n1 = 0 ∧ c1 = 0) (hno2 : a2 = none → n2 = 0 ∧ c2 = 0) (hb1 : n1 ≤ 100000) (hb2 : n2 ≤ 100000) :
    Calls Try.prog 42 #[.slice (some ⟨q, 0, none⟩) 2 cq] w fun e w' => (∃ v, e = .returned v ∧ w'.ownsRow w.heap.size 3 1 v (n1 + n2) (zcells (xs ++ ys))) ∧ Below w.heap.size w w' := by
  have H1 := hide h1
  have H2 := hide h2
  have HQ0 := hide hq0
  have HQ1 := hide hq1
  have HN1 := hide hno1
  have HN2 := hide hno2
  clear h1 h2 hno1 hno2
  go_enter Try.func42, Try.ntmps42
  go_wp2
  go_loop [3, 11] (fun s i => (i = .int .i64 0 ∧ s = .int .i64 0) ∨ (i = .int .i64 1 ∧ s = .int .i64 n1) ∨ (i = .int .i64 2 ∧ s = .int .i64 ((n1 + n2 : Nat) : Int))) (fun s i => 2 - (intOf i).toNat)
  case atStart => exact .inl ⟨rfl, rfl⟩
  case round =>
    rcases hrel with ⟨rfl, rfl⟩ | ⟨rfl, rfl⟩ | ⟨rfl, rfl⟩
    · go_wp2
      go_round
      case rel => exact .inr (.inl ⟨rfl, by go_num⟩)
      case measure => simp [intOf]
    · go_wp2
      go_round
      case rel => exact .inr (.inr ⟨rfl, by go_num⟩)
      case measure => simp [intOf]
    · go_wp2_with fail
      refine (grow_any _ (n1 + n2) (by omega)).mono ?_
      rintro e w1 ⟨⟨v, rfl, hown⟩, hb⟩
      have HO := hide hown
      have HB := hide hb
      have c0 : w1.cell? ⟨q, 0, none⟩ = some (.slice a1 n1 c1) := by rw [hb.cell (p := ⟨q, 0, none⟩) hq]; exact unhide HQ0
      have c1' : w1.cell? ⟨q, 1, none⟩ = some (.slice a2 n2 c2) := by rw [hb.cell (p := ⟨q, 1, none⟩) hq]; exact unhide HQ1
      have N1 := hide ((unhide H1).below hb)
      clear hown hb hq0 hq1
      go_wp2_with fail
      go_loopw [6, 27] (fun s i wr => ((i = .int .i64 0 ∧ wr.ownsRow w.heap.size 3 1 s 0 []) ∨ (i = .int .i64 1 ∧ wr.ownsRow w.heap.size 3 1 s n1 (zcells xs)) ∨ (i = .int .i64 2 ∧ wr.ownsRow w.heap.size 3 1 s (n1 + n2) (zcells (xs ++ ys)))) ∧ Below w.heap.size w wr) (fun s i wr => 2 - (intOf i).toNat)
      case atStart => exact ⟨.inl ⟨rfl, unhide HO⟩, unhide HB⟩
      case round =>
        obtain ⟨hrel, hbr⟩ := hrel
        have r0 : wr.cell? ⟨q, 0, none⟩ = some (.slice a1 n1 c1) := by rw [hbr.cell (p := ⟨q, 0, none⟩) hq]; exact unhide HQ0
        have r1 : wr.cell? ⟨q, 1, none⟩ = some (.slice a2 n2 c2) := by rw [hbr.cell (p := ⟨q, 1, none⟩) hq]; exact unhide HQ1
        have M1 := hide ((unhide H1).below hbr)
        have M2 := hide ((unhide H2).below hbr)
        have HBR := hide hbr
        have hsz := hbr.size
        clear hbr c0 c1'
        rcases hrel with ⟨rfl, ho⟩ | ⟨rfl, ho⟩ | ⟨rfl, ho⟩
        · have HO2 := hide ho
          clear ho
          go_wp2_with (at_builtin; refine wpList_app_ints rfl (.tmp 31) (.tmp 32) rfl w.heap.size u6 0 [] rfl (unhide HO2) a1 n1 c1 xs rfl (unhide HN1) (unhide M1) ?d4 hsz ?_)
          case d4 => omega
          intro v2 w4 hown4 hg4
          have HO4 := hide hown4
          have HB4 := hide ((unhide HBR).grown hg4 hsz fun k hk => ((unhide HO2).lt k hk).1)
          clear hown4 hg4
          go_wp2_with fail
          go_roundw
          case rel =>
            refine ⟨.inr (.inl ⟨rfl, ?_⟩), unhide HB4⟩
            have := unhide HO4
            simpa using this
          case measure => simp [intOf]
        · have HO2 := hide ho
          clear ho
          go_wp2_with (at_builtin; refine wpList_app_ints rfl (.tmp 31) (.tmp 32) rfl w.heap.size u6 n1 xs rfl (unhide HO2) a2 n2 c2 ys rfl (unhide HN2) (unhide M2) ?e4 hsz ?_)
          case e4 => omega
          intro v2 w4 hown4 hg4
          have HO4 := hide hown4
          have HB4 := hide ((unhide HBR).grown hg4 hsz fun k hk => ((unhide HO2).lt k hk).1)
          clear hown4 hg4
          go_wp2_with fail
          go_roundw
          case rel => exact ⟨.inr (.inr ⟨rfl, unhide HO4⟩), unhide HB4⟩
          case measure => simp [intOf]
        · have HO2 := hide ho
          clear ho
          go_wp2_with fail
          go_ret
          exact ⟨⟨_, rfl, unhide HO2⟩, unhide HBR⟩
end Go.Proofs.Ytbecmaandhadhaa


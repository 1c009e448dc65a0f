/-
  The contracts of slices.Clone, Grow, Concat at items, of Row. Conditions: the rows lie in memory as told.
-/
import Derived.Test.YtdkchihomllokaaIt
import Derived.Laws.AppendOwnNone
import Derived.Lib.AppendZeros
namespace Go.Proofs.Ytdkchihomllokaa
open Go.RowKit
set_option linter.unusedVariables false
set_option maxRecDepth 20000

set_option maxHeartbeats 1000000 in
theorem cloneI_nil (w : World) : Calls Try.prog 30 #[.slice none 0 0] w fun e w' => e = .returned (.slice none 0 0) ∧ w' = w := by
  have q22 : ∀ (w : World) (a : Option Addr) (n c n' c' : Nat), (binOp .eql 33 (.slice a n c) (.slice none n' c')).run Try.prog w = .ok (.bool a.isNone) w := fun w a n c n' c' => Lib.run_eql_slice_nil w _ _ a n c n' c' Try.underlying33
  go_enter Try.func30, Try.ntmps30
  go_wp2
  go_ret
  exact ⟨rfl, rfl⟩

set_option maxHeartbeats 1000000 in
theorem cloneI_some (w : World) (p : Addr) (n c : Nat) (cs : List Value) (h : Cr 3 w (some p) n cs) (h1 : ∀ u ∈ cs, u.oneCell' = true) (hn : n ≤ 1000000) :
    Calls Try.prog 30 #[.slice (some p) n c] w fun e w' => (∃ v, e = .returned v ∧ w'.ownsRow w.heap.size 72 3 v n cs ∧ v ≠ .slice none 0 0) ∧ Below w.heap.size w w' := by
  obtain ⟨i0, hi0, hz0, hz1, hz2⟩ := info_parts info72
  have HI := hide hi0
  have HZ0 := hide hz0
  have HZ1 := hide hz1
  have HZ2 := hide hz2
  have HN := hide h
  have H1 := hide h1
  have hxl : cs.length = n * 3 := h.1
  have HXL := hide hxl
  clear hi0 hz0 hz1 hz2 h hxl h1
  have q22 : ∀ (w : World) (a : Option Addr) (n c n' c' : Nat), (binOp .eql 33 (.slice a n c) (.slice none n' c')).run Try.prog w = .ok (.bool a.isNone) w := fun w a n c n' c' => Lib.run_eql_slice_nil w _ _ a n c n' c' Try.underlying33
  go_enter Try.func30, Try.ntmps30
  go_wp2_with (at_builtin; refine wpList_append_own _ rfl (.tmp 5) (.tmp 6) 33 rfl w.heap.size 72 i0 (.agg #[.int .i64 0, .int .i64 0, .int .i64 0]) 3 24 Try.underlying33 (unhide HI) (unhide HZ0) (unhide HZ1) (unhide HZ2) rfl (by decide) _ 0 [] rfl (owns_lit_empty w 72 3 w.heap.size (Nat.le_refl _)) p n c cs rfl ?c1 ?c2 ?c3 ?c4 ?c5 ?c6 ?_)
  case c1 => exact unhide HXL
  case c2 => exact ((unhide HN).below ((Below.refl _ _).alloc (Nat.le_refl _) _)).cells
  case c3 => exact unhide H1
  case c4 => unfold maxLen; omega
  case c5 => omega
  case c6 => simp
  intro v2 w4 hown4 hg4 hnil
  have HO := hide hown4
  have HG := hide hg4
  have HV := hide hnil
  clear hown4 hg4 hnil
  go_wp2
  go_ret
  refine ⟨⟨v2, rfl, ?_, ?_⟩, ?_⟩
  · have := unhide HO
    simpa using this
  · intro hv
    exact unhide HV hv
  · exact ((Below.refl _ _).alloc (Nat.le_refl _) _).grown (unhide HG) (by simp) (fun k hk => by simp [Value.ownBlock] at hk; omega)
theorem cloneI_any (w : World) (a : Option Addr) (n c : Nat) (cs : List Value) (h : Cr 3 w a n cs) (h1 : ∀ u ∈ cs, u.oneCell' = true) (hno : a = none → n = 0 ∧ c = 0) (hn : n ≤ 1000000) :
    Calls Try.prog 30 #[.slice a n c] w fun e w' => (∃ v, e = .returned v ∧ w'.ownsRow w.heap.size 72 3 v n cs) ∧ Below w.heap.size w w' := by
  cases a with
  | none =>
    obtain ⟨rfl, rfl⟩ := hno rfl
    have hx : cs = [] := List.eq_nil_of_length_eq_zero (by simpa using h.1)
    subst hx
    refine (cloneI_nil w).mono ?_
    rintro e w' ⟨rfl, rfl⟩
    exact ⟨⟨_, rfl, World.ownsRow_nil _ _ _ _⟩, Below.refl _ _⟩
  | some p =>
    refine (cloneI_some w p n c cs h h1 hn).mono ?_
    rintro e w' ⟨⟨v, rfl, ho, _⟩, hb⟩
    exact ⟨⟨v, rfl, ho⟩, hb⟩
/-- items that were handed back -/
def ItsTold (w w' : World) (l : List It) (e : Ending) : Prop := ∃ v, e = .returned v ∧ w'.ownsRow w.heap.size 72 3 v l.length (icells l)

set_option maxHeartbeats 1000000 in
theorem row_any (w : World) (fb : Nat) (ra : Option Addr) (rc : Nat) (row : List It) (hf : w.cell? ⟨fb, 0, none⟩ = some (.slice ra row.length rc)) (hR : Is w ra row) (hno : ra = none → row.length = 0 ∧ rc = 0) (hn : row.length ≤ 1000) :
    Calls Try.prog 11 #[.pointer (some ⟨fb, 0, none⟩)] w fun e w' => ItsTold w w' row e ∧ Below w.heap.size w w' := by
  have C := hide (cloneI_any w ra row.length rc (icells row) hR (icells_one row) hno (by omega))
  go_enter Try.func11, Try.ntmps11
  go_wp2_with fail
  refine (unhide C).mono ?_
  rintro e w1 ⟨⟨v, rfl, ho⟩, hb⟩
  have HO := hide ho
  have HB := hide hb
  clear ho hb
  go_wp2_with fail
  go_ret
  exact ⟨⟨v, rfl, unhide HO⟩, unhide HB⟩
end Go.Proofs.Ytdkchihomllokaa

namespace Go.Proofs.Ytdkchihomllokaa
open Go.RowKit
set_option linter.unusedVariables false
set_option maxRecDepth 20000

set_option maxHeartbeats 1000000 in
theorem growI_nil (w : World) (n : Nat) (h1 : 1 ≤ n) (hn : n ≤ 1000000) :
    Calls Try.prog 72 #[.slice none 0 0, .int .i64 n] w fun e w' => (∃ v, e = .returned v ∧ w'.ownsRow w.heap.size 72 3 v 0 []) ∧ Below w.heap.size w w' := by
  obtain ⟨i0, hi0, hz0, hz1, hz2⟩ := info_parts info72
  have hrun := fun (ty : TypeId) (w : World) => Lib.run_append_nil_zeros (P := Try.prog) w 33 3 ty 72 i0 (.agg #[.int .i64 0, .int .i64 0, .int .i64 0]) .i64 .i64 Try.underlying33 Try.underlying3 hi0 hz0 n (by omega) (by rw [hz1]; omega) (by omega) (by rw [hz2]; omega)
  have HR := hide hrun
  clear hi0 hz0 hz1 hz2 hrun
  have h1' : (1 : Int) ≤ (n : Int) := by omega
  have h2' : (0 : Int) < (n : Int) := by omega
  have h3' : ¬ (n : Int) < 0 := by omega
  go_enter Try.func72, Try.ntmps72
  go_wp2_with (at_builtin; refine Lib.wpList_append_run _ rfl (.tmp 20) (.tmp 21) 33 3 rfl _ _ rfl rfl _ _ (unhide HR _ _) ?_)
  go_wp2
  go_ret
  refine ⟨⟨_, rfl, ?_⟩, (((Below.refl _ _).drew).alloc (Nat.le_refl _) _)⟩
  refine ⟨by simp, .inr ⟨w.heap.size, _, _, rfl, Nat.le_refl _, heap_alloc_new w.drew _, by omega, grownCap_le_maxLen w n 0 72 (by unfold maxLen; omega), ?_, by simp⟩⟩
  have := grownCap_ge w n 0 72
  simp [Builtin.zeroCells]
  omega
set_option maxHeartbeats 1000000 in
theorem growI_zero (w : World) : Calls Try.prog 72 #[.slice none 0 0, .int .i64 0] w fun e w' => (∃ v, e = .returned v ∧ w'.ownsRow w.heap.size 72 3 v 0 []) ∧ Below w.heap.size w w' := by
  go_enter Try.func72, Try.ntmps72
  go_wp2
  go_ret
  exact ⟨⟨_, rfl, World.ownsRow_nil _ _ _ _⟩, Below.refl _ _⟩
theorem growI_any (w : World) (n : Nat) (hn : n ≤ 1000000) :
    Calls Try.prog 72 #[.slice none 0 0, .int .i64 n] w fun e w' => (∃ v, e = .returned v ∧ w'.ownsRow w.heap.size 72 3 v 0 []) ∧ Below w.heap.size w w' := by
  by_cases h : n = 0
  · subst h
    exact growI_zero w
  · exact growI_nil w n (by omega) hn

/-- append onto an own row of items, of any row of items -/
theorem wpList_app_items {w : World} {ops : Array Oper} {rest : List Oper} {o : Oper} {a : Act} {Q : Exit → Act → World → Prop} (hgd : o.guard = none) (s x : Operand)
    (ho : o.op = .call { callee := .builtin .append, args := #[s, x], argTypes := #[33, 33] }) (base : Nat) (v : Value) (n : Nat) (xs : List Value) (hs : a.eval s = v) (hown : w.ownsRow base 72 3 v n xs)
    (ad : Option Addr) (m c : Nat) (ys : List Value) (hx : a.eval x = .slice ad m c) (hno : ad = none → m = 0 ∧ c = 0) (hys : Cr 3 w ad m ys) (h1 : ∀ u ∈ ys, u.oneCell' = true) (hb : n + m ≤ 1000000) (hbase : base ≤ w.heap.size)
    (h : ∀ v' w', w'.ownsRow base 72 3 v' (n + m) (xs ++ ys) → w.grownBy w' v.ownBlock → wpList Try.prog ops Q rest (a.put o.dst v') w') : wpList Try.prog ops Q (o :: rest) a w := by
  obtain ⟨i0, hi0, hz0, hz1, hz2⟩ := info_parts info72
  cases ad with
  | none =>
    obtain ⟨rfl, rfl⟩ := hno rfl
    refine wpList_append_own_none hgd s x 33 ho base 72 i0 3 Try.underlying33 hi0 v n xs hs hown hx (h v w ?_ ⟨rfl, rfl, rfl, Nat.le_refl _, fun _ _ _ => rfl⟩)
    have : ys = [] := by have := hys.1; simpa using this
    subst this
    rw [List.append_nil]
    exact hown
  | some p =>
    refine wpList_append_own w hgd s x 33 ho base 72 i0 (.agg #[.int .i64 0, .int .i64 0, .int .i64 0]) 3 24 Try.underlying33 hi0 hz0 hz1 hz2 rfl (by decide) v n xs hs hown p m c ys hx (by rw [hys.1]) hys.cells h1 (by unfold maxLen; omega) (by omega) hbase ?_
    intro v' w' ho' hg _
    exact h v' w' ho' hg

/-- three rows that come together -/
structure T3 where
  a : Nat → Option Addr
  n : Nat → Nat
  c : Nat → Nat
  l : Nat → List Value
def T3.sum (t : T3) : Nat → Nat
  | 0 => 0
  | k + 1 => t.sum k + t.n k
def T3.all (t : T3) : Nat → List Value
  | 0 => []
  | k + 1 => t.all k ++ t.l k
structure T3.In (t : T3) (m : Nat) (w : World) : Prop where
  row : ∀ k, k < m → Cr 3 w (t.a k) (t.n k) (t.l k)
  one : ∀ k, k < m → ∀ u ∈ t.l k, u.oneCell' = true
  no : ∀ k, k < m → t.a k = none → t.n k = 0 ∧ t.c k = 0
  small : ∀ k, k < m → t.n k ≤ 1000
theorem T3.In.below {t : T3} {m : Nat} {w w' : World} (h : t.In m w) (hb : Below w.heap.size w w') : t.In m w' := ⟨fun k hk => (h.row k hk).below hb, h.one, h.no, h.small⟩
theorem T3.In.sum {t : T3} {m : Nat} {w : World} (h : t.In m w) : ∀ k, k ≤ m → t.sum k ≤ k * 1000
  | 0, _ => by simp [T3.sum]
  | k + 1, hk => by
    have := h.sum k (by omega)
    have := h.small k (by omega)
    show t.sum k + t.n k ≤ _
    omega

set_option maxHeartbeats 2000000 in
theorem concatI_any (w : World) (q cq m : Nat) (t : T3) (hm : m ≤ 10) (hq : ∀ k, k < m → w.cell? ⟨q, k, none⟩ = some (.slice (t.a k) (t.n k) (t.c k))) (hqw : q < w.heap.size) (hT : t.In m w) :
    Calls Try.prog 59 #[.slice (some ⟨q, 0, none⟩) m cq] w fun e w' => (∃ v, e = .returned v ∧ w'.ownsRow w.heap.size 72 3 v (t.sum m) (t.all m)) ∧ Below w.heap.size w w' := by
  have HT := hide hT
  have HQ := hide hq
  have HM := hide hm
  have HSM := hide hT.sum
  clear hT hq
  go_enter Try.func59, Try.ntmps59
  go_wp2_with fail
  go_loop [3, 11] (fun s i => ∃ k : Nat, i = .int .i64 k ∧ k ≤ m ∧ s = .int .i64 ((t.sum k : Nat) : Int)) (fun s i => m - (intOf i).toNat)
  case atStart => exact ⟨0, rfl, by omega, rfl⟩
  case round =>
    obtain ⟨k, rfl, hk, rfl⟩ := hrel
    by_cases hlt : k < m
    · have c0 := unhide HQ k hlt
      have hkm : (k : Int) < (m : Int) := by omega
      have HS1 := hide (show t.sum (k + 1) = t.sum k + t.n k from rfl)
      have hs1 := unhide HSM (k + 1) (by omega)
      rw [unhide HS1] at hs1
      obtain ⟨s0, hs0⟩ : ∃ s0, t.sum k = s0 := ⟨_, rfl⟩
      rw [hs0] at hs1 HS1 ⊢
      obtain ⟨n0, hn0⟩ : ∃ n0, t.n k = n0 := ⟨_, rfl⟩
      rw [hn0] at hs1 HS1 c0
      have hwk : IntKind.i64.wrap ((k : Int) + 1) = (k : Int) + 1 := by have := unhide HM; rw [IntKind.wrap_i64]; omega
      have hws : IntKind.i64.wrap ((s0 : Int) + (n0 : Int)) = ((s0 + n0 : Nat) : Int) := by have := unhide HM; rw [IntKind.wrap_i64]; omega
      have hs2 : decide (((s0 + n0 : Nat) : Int) < 0) = false := by simp; omega
      obtain ⟨s1, hs1e⟩ : ∃ s1, s0 + n0 = s1 := ⟨_, rfl⟩
      rw [hs1e] at hws hs2 HS1
      clear hs0 hn0 hs1 hs1e
      go_wp2_with fail
      go_round
      case rel => exact ⟨k + 1, by go_num, by omega, by rw [unhide HS1]⟩
      case measure => simp [intOf]; omega
    · obtain rfl : k = m := by omega
      have hsm := unhide HSM k (Nat.le_refl _)
      have hm10 := unhide HM
      have CG := hide (growI_any w (t.sum k) (by omega))
      obtain ⟨sk, hsk⟩ : ∃ sk, t.sum k = sk := ⟨_, rfl⟩
      rw [hsk] at CG ⊢
      have HSK := hide hsk
      clear hsk hsm
      go_wp2_with fail
      refine (unhide CG).mono ?_
      rintro e w1 ⟨⟨v, rfl, hown⟩, hb⟩
      have HO := hide hown
      have HB := hide hb
      clear hown hb CG
      go_wp2_with fail
      go_loopw [6, 27] (fun s i wr => ∃ j : Nat, i = .int .i64 j ∧ j ≤ k ∧ Hid (wr.ownsRow w.heap.size 72 3 s (t.sum j) (t.all j)) ∧ Hid (Below w.heap.size w wr)) (fun s i wr => k - (intOf i).toNat)
      case atStart => exact ⟨0, rfl, by omega, HO, HB⟩
      case round =>
        obtain ⟨j, rfl, hj, HOW, HBR⟩ := hrel
        have hsz := (unhide HBR).size
        by_cases hlt : j < k
        · have r0 : wr.cell? ⟨q, j, none⟩ = some (.slice (t.a j) (t.n j) (t.c j)) := by rw [(unhide HBR).cell (p := ⟨q, j, none⟩) hqw]; exact unhide HQ j hlt
          have M1 := hide ((unhide HT).below (unhide HBR))
          have hjm : (j : Int) < (k : Int) := by omega
          have hwj : IntKind.i64.wrap ((j : Int) + 1) = (j : Int) + 1 := by rw [IntKind.wrap_i64]; omega
          have hs1 := unhide HSM (j + 1) (by omega)
          have HJM := hide hlt
          have hs2 : t.sum j + t.n j ≤ (j + 1) * 1000 := hs1
          clear hs1
          go_wp2_with (at_builtin; refine wpList_app_items rfl (.tmp 31) (.tmp 32) rfl w.heap.size u6 (t.sum j) (t.all j) rfl (unhide HOW) (t.a j) (t.n j) (t.c j) (t.l j) rfl ((unhide HT).no j (unhide HJM)) ((unhide M1).row j (unhide HJM)) ((unhide HT).one j (unhide HJM)) ?d4 hsz ?_)
          case d4 => omega
          intro v2 w4 hown4 hg4
          have HO4 := hide hown4
          have HB4 := hide ((unhide HBR).grown hg4 hsz fun k hk => ((unhide HOW).lt k hk).1)
          clear hown4 hg4
          go_wp2_with fail
          go_roundw
          case rel => exact ⟨j + 1, by go_num, by omega, HO4, HB4⟩
          case measure => simp [intOf]; omega
        · obtain rfl : j = k := by omega
          go_wp2_with fail
          go_ret
          exact ⟨⟨_, rfl, by rw [← unhide HSK]; exact unhide HOW⟩, unhide HBR⟩
end Go.Proofs.Ytdkchihomllokaa


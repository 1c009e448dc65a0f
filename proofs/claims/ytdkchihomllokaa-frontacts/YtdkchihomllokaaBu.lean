/-
  The contract of bunches. Conditions: the row lies in memory as told.
-/
import Derived.Test.YtdkchihomllokaaIt
namespace Go.Proofs.Ytdkchihomllokaa
open Go.RowKit
set_option linter.unusedVariables false
set_option maxRecDepth 20000

theorem one_four (x y z u : Int) : ∀ q ∈ [Value.int .i64 x, Value.int .i64 y, Value.int .i64 z, Value.int .i64 u], q.oneCell' = true := by
  intro q hq
  simp only [List.mem_cons, List.not_mem_nil, or_false] at hq
  rcases hq with rfl | rfl | rfl | rfl <;> rfl
theorem four_new (w : World) (x y z u : Value) (t : TypeId) : ∀ j q, [x, y, z, u][j]? = some q → (w.alloc (.cells #[x, y, z, u] t)).cell? ((⟨w.heap.size, 0, none⟩ : Addr).add j) = some q := by
  intro j q hj
  match j, hj with
  | 0, hj => simp at hj; subst hj; simp [Addr.add]
  | 1, hj => simp at hj; subst hj; simp [Addr.add]
  | 2, hj => simp at hj; subst hj; simp [Addr.add]
  | 3, hj => simp at hj; subst hj; simp [Addr.add]

theorem own_shape {w : World} {base : Nat} {e : TypeId} {size : Nat} {v : Value} {n : Nat} {xs : List Value} (h : w.ownsRow base e size v n xs) : ∃ a c, v = .slice a n c := by
  rcases h.2 with ⟨hv, h0⟩ | ⟨g, cap, cur, rfl, _⟩
  · exact ⟨none, 0, by rw [hv, h0]⟩
  · exact ⟨_, cap, rfl⟩

theorem own_form {w : World} {base : Nat} {e : TypeId} {size : Nat} {v : Value} {n : Nat} {xs : List Value} (h : w.ownsRow base e size v n xs) (hn : 0 < n) : ∃ g c, v = .slice (some ⟨g, 0, none⟩) n c := by
  rcases h.2 with ⟨hv, h0⟩ | ⟨g, cap, cur, rfl, _⟩
  · omega
  · exact ⟨_, cap, rfl⟩

theorem bnStep_cnt {bs : List Bn} {i : Nat} {t : It} (h : ∀ b ∈ bs, b.count ≤ i) : ∀ b ∈ bnStep bs i t, b.count ≤ i + 1 := by
  unfold bnStep
  split
  · intro b hb; exact Nat.le_succ_of_le (h b hb)
  · split
    · intro b hb
      rcases List.mem_append.1 hb with hb | hb
      · exact Nat.le_succ_of_le (h b hb)
      · rw [List.mem_singleton.1 hb]; show 1 ≤ i + 1; omega
    · rename_i b1 hb1
      have hm := List.mem_of_mem_getLast? hb1
      split
      · intro b hb
        rcases List.mem_append.1 hb with hb | hb
        · exact Nat.le_succ_of_le (h b ((List.dropLast_sublist _).subset hb))
        · rw [List.mem_singleton.1 hb]; exact Nat.succ_le_succ (h b1 hm)
      · intro b hb
        rcases List.mem_append.1 hb with hb | hb
        · exact Nat.le_succ_of_le (h b hb)
        · rw [List.mem_singleton.1 hb]; show 1 ≤ i + 1; omega
theorem bnK_cnt (row : List It) : ∀ k, ∀ b ∈ bnK row k, b.count ≤ k
  | 0 => fun b hb => by simp [bnK] at hb
  | k + 1 => bnStep_cnt (bnK_cnt row k)

/-- the last bunch has one more edge, and ends there -/
theorem bn_done {w : World} {base g c p m k : Nat} {pre : List Bn} {b : Bn} (ho : w.ownsRow base 79 4 (.slice (some ⟨g, 0, none⟩) m c) m (bcells (pre ++ [b]))) (hp : pre.length = p) (z1 z2 : Value) (h1 : z1 = .int .i64 ((b.count + 1 : Nat) : Int)) (h2 : z2 = .int .i64 ((k + 1 : Nat) : Int)) :
    ((w.setCell ⟨g, p * 4 + 1, none⟩ z1).setCell ⟨g, p * 4 + 3, none⟩ z2).ownsRow base 79 4 (.slice (some ⟨g, 0, none⟩) m c) m (bcells (pre ++ [⟨b.head, b.count + 1, b.lo, k + 1⟩])) := by
  subst hp h1 h2
  have q1 := (ho.stored (pre.length * 4 + 1) (.int .i64 ((b.count + 1 : Nat) : Int))).1
  rw [bcells_set1] at q1
  have q2 := (q1.stored (pre.length * 4 + 3) (.int .i64 ((k + 1 : Nat) : Int))).1
  rw [bcells_set3] at q2
  exact q2

set_option maxHeartbeats 4000000 in
theorem bunches_any (w : World) (fb : Nat) (ra : Option Addr) (rc : Nat) (row : List It) (hf : w.cell? ⟨fb, 0, none⟩ = some (.slice ra row.length rc)) (hR : Is w ra row) (hn : row.length ≤ 1000) :
    Calls Try.prog 41 #[.pointer (some ⟨fb, 0, none⟩)] w fun e w' => (∃ v, e = .returned v ∧ w'.ownsRow w.heap.size 79 4 v (bnF row).length (bcells (bnF row))) ∧ Below w.heap.size w w' := by
  obtain ⟨i0, hi0, hz0, hz1, hz2⟩ := info_parts info79
  have HI := hide hi0
  have HZ0 := hide hz0
  have HZ1 := hide hz1
  have HZ2 := hide hz2
  have HR := hide hR
  obtain ⟨n, hnn⟩ : ∃ n, row.length = n := ⟨_, rfl⟩
  have HN := hide hnn
  rw [hnn] at hf hn
  clear hi0 hz0 hz1 hz2 hR hnn
  go_enter Try.func41, Try.ntmps41
  go_wp2_with fail
  go_loopw [3, 12] (fun v i wr => ∃ k : Nat, i = .int .i64 k ∧ k ≤ n ∧ Hid (wr.ownsRow w.heap.size 79 4 v (bnK row k).length (bcells (bnK row k))) ∧ Hid (Below w.heap.size w wr)) (fun v i wr => n - (intOf i).toNat)
  case atStart => exact ⟨0, rfl, by omega, World.ownsRow_nil _ _ _ _, Below.refl _ _⟩
  case round =>
    obtain ⟨k, rfl, hk, HO, HB⟩ := hrel
    have hbl := bnK_len row k
    have hsz := (unhide HB).size
    by_cases hlt : k < n
    · obtain ⟨g, off, ha, hg, c0, c1, c2⟩ := (unhide HR).at (show k < row.length by rw [unhide HN]; exact hlt)
      subst ha
      have HS := hide (show bnK row (k + 1) = bnStep (bnK row k) k (row.getD k (0, 0, 0)) from rfl)
      generalize row.getD k (0, 0, 0) = it at c0 c1 c2 HS
      obtain ⟨e, t, x⟩ := it
      simp only at c0 c1 c2
      have d0 : wr.cell? ⟨g, off + k * 3, none⟩ = some (.int .i64 e) := by rw [(unhide HB).cell (p := ⟨g, off + k * 3, none⟩) hg]; exact c0
      have d1 : wr.cell? ⟨g, off + k * 3 + 1, none⟩ = some (.int .i64 t) := by rw [(unhide HB).cell (p := ⟨g, off + k * 3 + 1, none⟩) hg]; exact c1
      have d2 : wr.cell? ⟨g, off + k * 3 + 2, none⟩ = some (.int .i64 x) := by rw [(unhide HB).cell (p := ⟨g, off + k * 3 + 2, none⟩) hg]; exact c2
      have hlt2 : (k : Int) < (n : Int) := by omega
      have hl1 : IntKind.i64.wrap ((k : Int) + 1) = (k : Int) + 1 := by rw [IntKind.wrap_i64]; omega
      clear c0 c1 c2
      by_cases he : e = -1
      · subst he
        have HS1 := hide (show bnK row (k + 1) = bnK row k by rw [unhide HS]; unfold bnStep; rw [if_pos rfl])
        clear HS
        go_wp2_with fail
        go_roundw
        case rel => exact ⟨k + 1, by go_num, by omega, by rw [unhide HS1]; exact HO.alloc _, (unhide HB).alloc hsz _⟩
        case measure => simp [intOf]; omega
      have he' : (e == -1) = false := by rw [beq_eq_false_iff_ne]; exact he
      rcases List.eq_nil_or_concat (bnK row k) with hbs | ⟨pre, b, hbs⟩
      · have HS1 := hide (show bnK row (k + 1) = [⟨x, 1, k, k + 1⟩] by rw [unhide HS, hbs]; unfold bnStep; rw [if_neg he]; rfl)
        rw [hbs] at HO
        obtain ⟨va, vc, rfl⟩ := own_shape (unhide HO)
        clear HS hbl hbs
        simp only [List.length_nil] at HO
        go_wp2_with fail
        obtain ⟨W, hW⟩ : ∃ W, wr.alloc (.cells #[.int .i64 e, .int .i64 t, .int .i64 x] 72) = W := ⟨_, rfl⟩
        have x2 : W.cell? ⟨wr.heap.size, 2, none⟩ = some (.int .i64 x) := by subst hW; simp
        have HOW := hide (show W.ownsRow w.heap.size 79 4 (.slice va 0 vc) 0 (bcells ([] : List Bn)) by subst hW; exact (unhide HO).alloc _)
        have hbW : Below w.heap.size w W := by subst hW; exact (unhide HB).alloc hsz _
        have hsW := hbW.size
        have HBW := hide hbW
        rw [hW]
        clear hbW hW
        go_quiet (fail)
        obtain ⟨W2, hW2⟩ : ∃ W2, W.drewN nq = W2 := ⟨_, rfl⟩
        rw [hW2]
        replace x2 : W2.cell? ⟨wr.heap.size, 2, none⟩ = some (.int .i64 x) := by subst hW2; exact x2
        replace HOW := hide (show W2.ownsRow w.heap.size 79 4 (.slice va 0 vc) 0 (bcells ([] : List Bn)) by subst hW2; exact unhide HOW)
        replace HBW := hide (show Below w.heap.size w W2 by subst hW2; exact below_draws (unhide HBW) _)
        replace hsW : w.heap.size ≤ W2.heap.size := (unhide HBW).size
        clear hW2
        go_wp2_with (at_builtin; refine wpList_append_own _ rfl (.tmp 35) (.tmp 40) 75 rfl w.heap.size 79 i0 (.agg #[.int .i64 0, .int .i64 0, .int .i64 0, .int .i64 0]) 4 32 Try.underlying75 (unhide HI) (unhide HZ0) (unhide HZ1) (unhide HZ2) rfl (by decide) _ 0 (bcells ([] : List Bn)) rfl ((unhide HOW).alloc _) ⟨W2.heap.size, 0, none⟩ 1 1 [.int .i64 x, .int .i64 0, .int .i64 k, .int .i64 0] rfl rfl (four_new W2 _ _ _ _ _) (one_four _ _ _ _) ?a3 ?a4 ?a5 ?_)
        case a3 => unfold maxLen; omega
        case a4 => omega
        case a5 => simp; omega
        intro v2 w4 hown4 hg4 _
        have hb4 : Below w.heap.size w w4 := (((unhide HBW).alloc hsW _).grown hg4 (by simp; omega) fun j hj => ((unhide HOW).lt j hj).1)
        obtain ⟨g2, c2, rfl⟩ := own_form hown4 (by omega)
        have hown5 : w4.ownsRow w.heap.size 79 4 (.slice (some ⟨g2, 0, none⟩) 1 c2) 1 (bcells (([] : List Bn) ++ [⟨x, 0, k, 0⟩])) := by
          rw [bcells_append]
          exact hown4
        have HO5 := hide hown5
        have HB4 := hide hb4
        have e1 : w4.cell? ⟨g2, 0 * 4 + 1, none⟩ = some (.int .i64 0) := by rw [hown5.cellAt (0 * 4 + 1) (by omega), bcells_append, List.getElem?_append_right (by rw [bcells_length]; simp), bcells_length, show 0 * 4 + 1 - (([] : List Bn)).length * 4 = 1 by simp]; rfl
        have e3 : w4.cell? ⟨g2, 0 * 4 + 3, none⟩ = some (.int .i64 0) := by rw [hown5.cellAt (0 * 4 + 3) (by omega), bcells_append, List.getElem?_append_right (by rw [bcells_length]; simp), bcells_length, show 0 * 4 + 3 - (([] : List Bn)).length * 4 = 3 by simp]; rfl
        have f1 : w4.frozen? ⟨g2, 0 * 4 + 1, none⟩ = false := hown5.frozenAt _
        have f3 : w4.frozen? ⟨g2, 0 * 4 + 3, none⟩ = false := hown5.frozenAt _
        have hb2 := (hown5.lt g2 rfl).1
        clear hown4 hown5 hg4 hb4
        simp only [Nat.zero_mul, Nat.zero_add] at e1 e3 f1 f3
        go_wp2_with fail
        go_roundw
        case rel =>
          refine ⟨k + 1, by go_num, by omega, ?_, ((unhide HB4).setCell (p := ⟨g2, _, none⟩) hb2 _).setCell (p := ⟨g2, _, none⟩) hb2 _⟩
          rw [unhide HS1]
          have := bn_done (k := k) (unhide HO5) (p := 0) rfl _ _ rfl rfl
          exact this
        case measure => simp [intOf]; omega
      · rw [List.concat_eq_append] at hbs
        obtain ⟨p, hp⟩ : ∃ p, pre.length = p := ⟨_, rfl⟩
        obtain ⟨m, hm⟩ : ∃ m, p + 1 = m := ⟨_, rfl⟩
        rw [hbs, show (pre ++ [b]).length = m by simp [hp, hm]] at HO
        rw [hbs, show (pre ++ [b]).length = m by simp [hp, hm]] at hbl
        obtain ⟨gb, vc, hvv⟩ := own_form (unhide HO) (by omega)
        obtain ⟨va, hva⟩ : ∃ va, some (⟨gb, 0, none⟩ : Addr) = va := ⟨_, rfl⟩
        rw [hva] at hvv
        subst hvv
        have hw1 : IntKind.i64.wrap ((m : Int) - 1) = (p : Int) := by rw [IntKind.wrap_i64]; omega
        have hp0 : decide ((p : Int) < 0) = false := by simp
        have hpm : (p : Int) < (m : Int) := by omega
        have HCN := hide (show ∀ b' ∈ pre ++ [b], b'.count ≤ 1000 from fun b' h => by rw [← hbs] at h; exact Nat.le_trans (bnK_cnt row k b' h) (by omega))
        have HM := hide hm
        have HP := hide hp
        have hS0 : ∀ b', bnStep (pre ++ [b]) k (e, t, x) = b' → bnK row (k + 1) = b' := fun b' h => by rw [unhide HS, hbs]; exact h
        have hS1 : bnStep (pre ++ [b]) k (e, t, x) = if b.head = x then pre ++ [⟨b.head, b.count + 1, b.lo, k + 1⟩] else pre ++ [b] ++ [⟨x, 1, k, k + 1⟩] := by
          unfold bnStep
          rw [if_neg he]
          simp
        have HS2 := hide (hS0 _ hS1)
        clear HS hbs hS0 hS1 hm hp
        subst hva
        go_wp2_with fail
        obtain ⟨W, hW⟩ : ∃ W, wr.alloc (.cells #[.int .i64 e, .int .i64 t, .int .i64 x] 72) = W := ⟨_, rfl⟩
        have x2 : W.cell? ⟨wr.heap.size, 2, none⟩ = some (.int .i64 x) := by subst hW; simp
        have HOW := hide (show W.ownsRow w.heap.size 79 4 (.slice (some ⟨gb, 0, none⟩) m vc) m (bcells (pre ++ [b])) by subst hW; exact (unhide HO).alloc _)
        have hbW : Below w.heap.size w W := by subst hW; exact (unhide HB).alloc hsz _
        have hsW := hbW.size
        have HBW := hide hbW
        rw [hW]
        clear hbW hW
        have y0 : W.cell? ⟨gb, p * 4, none⟩ = some (.int .i64 b.head) := by
          rw [(unhide HOW).cellAt (p * 4) (by omega), bcells_append, List.getElem?_append_right (by rw [bcells_length, unhide HP]; omega), bcells_length, unhide HP, show p * 4 - p * 4 = 0 by omega]; rfl
        obtain ⟨bh, hbh⟩ : ∃ bh, b.head = bh := ⟨_, rfl⟩
        rw [hbh] at y0
        by_cases hx : bh = x
        · have HS1 := hide (show bnK row (k + 1) = pre ++ [⟨b.head, b.count + 1, b.lo, k + 1⟩] by rw [unhide HS2, if_pos (by rw [hbh, hx])])
          have hx' : (bh == x) = true := by simp [hx]
          have HBH := hide hbh
          have HX := hide hx
          clear hbh hx HS2
          go_quiet (fail)
          obtain ⟨W2, hW2⟩ : ∃ W2, W.drewN nq = W2 := ⟨_, rfl⟩
          rw [hW2]
          replace x2 : W2.cell? ⟨wr.heap.size, 2, none⟩ = some (.int .i64 x) := by subst hW2; exact x2
          replace HOW := hide (show W2.ownsRow w.heap.size 79 4 (.slice (some ⟨gb, 0, none⟩) m vc) m (bcells (pre ++ [b])) by subst hW2; exact unhide HOW)
          replace HBW := hide (show Below w.heap.size w W2 by subst hW2; exact below_draws (unhide HBW) _)
          replace hsW : w.heap.size ≤ W2.heap.size := (unhide HBW).size
          clear hW2
          have e1 : W2.cell? ⟨gb, p * 4 + 1, none⟩ = some (.int .i64 (b.count : Nat)) := by
            rw [(unhide HOW).cellAt (p * 4 + 1) (by omega), bcells_append, List.getElem?_append_right (by rw [bcells_length, unhide HP]; omega), bcells_length, unhide HP, show p * 4 + 1 - p * 4 = 1 by omega]; rfl
          have e3 : W2.cell? ⟨gb, p * 4 + 3, none⟩ = some (.int .i64 (b.hi : Nat)) := by
            rw [(unhide HOW).cellAt (p * 4 + 3) (by omega), bcells_append, List.getElem?_append_right (by rw [bcells_length, unhide HP]; omega), bcells_length, unhide HP, show p * 4 + 3 - p * 4 = 3 by omega]; rfl
          have f1 : W2.frozen? ⟨gb, p * 4 + 1, none⟩ = false := (unhide HOW).frozenAt _
          have f3 : W2.frozen? ⟨gb, p * 4 + 3, none⟩ = false := (unhide HOW).frozenAt _
          have hb2 := ((unhide HOW).lt gb rfl).1
          obtain ⟨bc, hbc⟩ : ∃ bc, b.count = bc := ⟨_, rfl⟩
          rw [hbc] at e1
          have hwc : IntKind.i64.wrap ((bc : Int) + 1) = (bc : Int) + 1 := by rw [IntKind.wrap_i64]; have := unhide HCN b (List.mem_append_right _ (List.mem_singleton.2 rfl)); omega
          have HBC := hide hbc
          clear hbc y0
          go_wp2_with fail
          go_roundw
          case rel =>
            refine ⟨k + 1, by go_num, by omega, ?_, ((unhide HBW).setCell (p := ⟨gb, _, none⟩) hb2 _).setCell (p := ⟨gb, _, none⟩) hb2 _⟩
            rw [unhide HS1]
            have := bn_done (k := k) (unhide HOW) (p := p) (unhide HP) _ _ rfl rfl
            rw [show (pre ++ [(⟨b.head, b.count + 1, b.lo, k + 1⟩ : Bn)]).length = m by simp [unhide HP, unhide HM]]
            rw [unhide HBC] at this ⊢
            exact this
          case measure => simp [intOf]; omega
        · have HS1 := hide (show bnK row (k + 1) = pre ++ [b] ++ [⟨x, 1, k, k + 1⟩] by rw [unhide HS2, if_neg (by rw [hbh]; exact hx)])
          have hx' : (bh == x) = false := by simp [hx]
          have HBH := hide hbh
          have HX := hide hx
          clear hbh hx HS2
          go_quiet (fail)
          obtain ⟨W2, hW2⟩ : ∃ W2, W.drewN nq = W2 := ⟨_, rfl⟩
          rw [hW2]
          replace x2 : W2.cell? ⟨wr.heap.size, 2, none⟩ = some (.int .i64 x) := by subst hW2; exact x2
          replace HOW := hide (show W2.ownsRow w.heap.size 79 4 (.slice (some ⟨gb, 0, none⟩) m vc) m (bcells (pre ++ [b])) by subst hW2; exact unhide HOW)
          replace HBW := hide (show Below w.heap.size w W2 by subst hW2; exact below_draws (unhide HBW) _)
          replace hsW : w.heap.size ≤ W2.heap.size := (unhide HBW).size
          clear hW2
          obtain ⟨m2, hm2⟩ : ∃ m2, m + 1 = m2 := ⟨_, rfl⟩
          have HM2 := hide hm2
          have hmm2 : (m : Int) < (m2 : Int) := by omega
          have hw2 : IntKind.i64.wrap ((p : Int) + 1) = (m : Int) := by have := unhide HM; rw [IntKind.wrap_i64]; omega
          clear y0
          go_wp2_with (at_builtin; refine wpList_append_own _ rfl (.tmp 35) (.tmp 40) 75 rfl w.heap.size 79 i0 (.agg #[.int .i64 0, .int .i64 0, .int .i64 0, .int .i64 0]) 4 32 Try.underlying75 (unhide HI) (unhide HZ0) (unhide HZ1) (unhide HZ2) rfl (by decide) _ m (bcells (pre ++ [b])) rfl ((unhide HOW).alloc _) ⟨W2.heap.size, 0, none⟩ 1 1 [.int .i64 x, .int .i64 0, .int .i64 k, .int .i64 0] rfl rfl (four_new W2 _ _ _ _ _) (one_four _ _ _ _) ?a3 ?a4 ?a5 ?_)
          case a3 => unfold maxLen; omega
          case a4 => omega
          case a5 => simp; omega
          intro v2 w4 hown4 hg4 _
          have hb4 : Below w.heap.size w w4 := (((unhide HBW).alloc hsW _).grown hg4 (by simp; omega) fun j hj => ((unhide HOW).lt j hj).1)
          obtain ⟨g2, c2, rfl⟩ := own_form hown4 (by omega)
          try rw [hm2] at hown4
          try rw [hm2]
          have hown5 : w4.ownsRow w.heap.size 79 4 (.slice (some ⟨g2, 0, none⟩) m2 c2) m2 (bcells ((pre ++ [b]) ++ [⟨x, 0, k, 0⟩])) := by
            rw [bcells_append]
            exact hown4
          have HO5 := hide hown5
          clear hm2
          have HB4 := hide hb4
          have e1 : w4.cell? ⟨g2, m * 4 + 1, none⟩ = some (.int .i64 0) := by rw [hown5.cellAt (m * 4 + 1) (by omega), bcells_append, List.getElem?_append_right (by rw [bcells_length]; (first | (simp [unhide HP, unhide HM]; done) | (simp [unhide HP]; have := unhide HM; omega))), bcells_length, show m * 4 + 1 - ((pre ++ [b])).length * 4 = 1 by (first | (simp [unhide HP, unhide HM]; done) | (simp [unhide HP]; have := unhide HM; omega))]; rfl
          have e3 : w4.cell? ⟨g2, m * 4 + 3, none⟩ = some (.int .i64 0) := by rw [hown5.cellAt (m * 4 + 3) (by omega), bcells_append, List.getElem?_append_right (by rw [bcells_length]; (first | (simp [unhide HP, unhide HM]; done) | (simp [unhide HP]; have := unhide HM; omega))), bcells_length, show m * 4 + 3 - ((pre ++ [b])).length * 4 = 3 by (first | (simp [unhide HP, unhide HM]; done) | (simp [unhide HP]; have := unhide HM; omega))]; rfl
          have f1 : w4.frozen? ⟨g2, m * 4 + 1, none⟩ = false := hown5.frozenAt _
          have f3 : w4.frozen? ⟨g2, m * 4 + 3, none⟩ = false := hown5.frozenAt _
          have hb2 := (hown5.lt g2 rfl).1
          clear hown4 hown5 hg4 hb4
          go_wp2_with fail
          go_roundw
          case rel =>
            refine ⟨k + 1, by go_num, by omega, ?_, ((unhide HB4).setCell (p := ⟨g2, _, none⟩) hb2 _).setCell (p := ⟨g2, _, none⟩) hb2 _⟩
            rw [unhide HS1]
            have := bn_done (k := k) (unhide HO5) (p := m) (by simp [unhide HP, unhide HM]) _ _ rfl rfl
            rw [show (pre ++ [b] ++ [(⟨x, 1, k, k + 1⟩ : Bn)]).length = m2 by simp only [List.length_append, List.length_cons, List.length_nil, unhide HP]; have := unhide HM; have := unhide HM2; omega]
            exact this
          case measure => simp [intOf]; omega
    · obtain rfl : k = n := by omega
      go_wp2_with fail
      go_ret
      refine ⟨⟨_, rfl, ?_⟩, unhide HB⟩
      unfold bnF
      rw [unhide HN]
      exact unhide HO
end Go.Proofs.Ytdkchihomllokaa


/-
  The tree of blocks and cut vertices: nodes as a list that grows node by node; the contracts of the closures of block.Tree, of slices.DeleteFunc at one of them, of block.Tree, and of the statement's own closure. Conditions: what each theorem asks to lie in memory.
-/
import Derived.Test.YtbecmaandhadhaaBq
import Derived.Test.YtbecmaandhadhaaEd
import Derived.Test.YtbecmaandhadhaaSr
import Derived.Test.YtbecmaandhadhaaPa
import Derived.Deep.RegionHeld3
namespace Go.Proofs.Ytbecmaandhadhaa.pt
open Go.RowKit
set_option linter.unusedVariables false
set_option maxRecDepth 20000

/-- a node: is it a cut vertex, its place or vertex, its parent -/
abbrev Nd : Type := Bool × Nat × Int
def hasN (N : List Nd) (c : Bool) (x : Nat) : Bool := N.any fun n => n.1 == c && n.2.1 == x
def put1 (N : List Nd) (p : Int) (c : Bool) (x : Nat) : List Nd := if hasN N c x then N else N ++ [(c, x, p)]
def hangK (N : List Nd) (p : Int) (c : Bool) (l : List Nat) : List Nd := l.foldl (fun N x => put1 N p c x) N
theorem hangK_nil (N : List Nd) (p : Int) (c : Bool) : hangK N p c [] = N := rfl
theorem hangK_snoc (N : List Nd) (p : Int) (c : Bool) (l : List Nat) (x : Nat) : hangK N p c (l ++ [x]) = put1 (hangK N p c l) p c x := by simp [hangK]
theorem put1_le (N : List Nd) (p : Int) (c : Bool) (x : Nat) : N.length ≤ (put1 N p c x).length := by
  unfold put1
  split
  · exact Nat.le_refl _
  · simp
theorem put1_pre (N : List Nd) (p : Int) (c : Bool) (x : Nat) {i : Nat} (hi : i < N.length) (d : Nd) : (put1 N p c x).getD i d = N.getD i d := by
  unfold put1
  split
  · rfl
  · simp only [List.getD]
    rw [List.getElem?_append_left hi]
theorem hangK_le (N : List Nd) (p : Int) (c : Bool) (l : List Nat) : N.length ≤ (hangK N p c l).length := by
  unfold hangK
  induction l generalizing N with
  | nil => exact Nat.le_refl _
  | cons x l ih => exact Nat.le_trans (put1_le N p c x) (ih _)
/-- numbers for nodes -/
def keyN (V : Nat) (c : Bool) (x : Nat) : Nat := if c then x else V + x
/-- nodes that are what they should be, each once -/
structure InvN (V m : Nat) (N : List Nd) : Prop where
  nd : (N.map fun n => keyN V n.1 n.2.1).Nodup
  rg : ∀ n ∈ N, (n.1 = true → n.2.1 < V) ∧ (n.1 = false → n.2.1 < m)
theorem key_inj {V : Nat} {c c' : Bool} {x x' : Nat} (h : c = true → x < V) (h' : c' = true → x' < V) (e : keyN V c x = keyN V c' x') : c = c' ∧ x = x' := by
  unfold keyN at e
  cases c <;> cases c' <;> simp at e h h' ⊢ <;> omega
theorem InvN.put {V m : Nat} {N : List Nd} (h : InvN V m N) (p : Int) {c : Bool} {x : Nat} (hx : (c = true → x < V) ∧ (c = false → x < m)) : InvN V m (put1 N p c x) := by
  unfold put1
  cases hh : hasN N c x with
  | true => exact h
  | false =>
    refine ⟨?_, fun n hn => ?_⟩
    · rw [if_neg (by simp), List.map_append, List.nodup_append]
      refine ⟨h.nd, by simp, ?_⟩
      intro a ha b hb e
      simp only [List.map_cons, List.map_nil, List.mem_singleton] at hb
      subst hb
      obtain ⟨n, hn, rfl⟩ := List.mem_map.1 ha
      obtain ⟨e1, e2⟩ := key_inj (h.rg n hn).1 hx.1 e
      have : hasN N c x = true := List.any_eq_true.2 ⟨n, hn, by simp [e1, e2]⟩
      rw [hh] at this
      cases this
    · rw [if_neg (by simp)] at hn
      rcases List.mem_append.1 hn with hn | hn
      · exact h.rg n hn
      · have := List.mem_singleton.1 hn
        subst this
        exact hx
theorem InvN.hang {V m : Nat} {N : List Nd} (h : InvN V m N) (p : Int) {c : Bool} {l : List Nat} (hl : ∀ x ∈ l, (c = true → x < V) ∧ (c = false → x < m)) : InvN V m (hangK N p c l) := by
  unfold hangK
  induction l generalizing N with
  | nil => exact h
  | cons x l ih => exact ih (h.put p (hl x List.mem_cons_self)) fun y hy => hl y (List.mem_cons_of_mem _ hy)
theorem InvN.len {V m : Nat} {N : List Nd} (h : InvN V m N) : N.length ≤ V + m := by
  have := Pl.nodup_le (V + m) _ h.nd fun k hk => by
    obtain ⟨n, hn, rfl⟩ := List.mem_map.1 hk
    have hr := h.rg n hn
    unfold keyN
    cases hc : n.1 with
    | true => have := hr.1 hc; simp; omega
    | false => have := hr.2 hc; simp; omega
  simpa using this
/-- what hangs at a node -/
def kids (V : Nat) (es : List (Nat × Nat)) (L : List (List Nat)) (n : Nd) : List Nat := if n.1 then plK es L L.length n.2.1 else (cutsOf V es L V).filter fun x => hasAt es (L.getD n.2.1 []) x
/-- the nodes, when so many have been gone through -/
def seqN (V : Nat) (es : List (Nat × Nat)) (L : List (List Nat)) : Nat → List Nd
  | 0 => [(false, 0, -1)]
  | k + 1 => hangK (seqN V es L k) (k : Int) (!((seqN V es L k).getD k (false, 0, 0)).1) (kids V es L ((seqN V es L k).getD k (false, 0, 0)))
theorem kids_rg (V : Nat) (es : List (Nat × Nat)) (L : List (List Nat)) (n : Nd) : ∀ x ∈ kids V es L n, ((!n.1) = true → x < V) ∧ ((!n.1) = false → x < L.length) := by
  intro x hx
  unfold kids at hx
  cases hc : n.1 with
  | true =>
    rw [hc] at hx
    simp [plK] at hx
    simp [hx.1]
  | false =>
    rw [hc] at hx
    simp [cutsOf] at hx
    simp [hx.1]
theorem seqN_inv {V : Nat} {es : List (Nat × Nat)} {L : List (List Nat)} (hL : 0 < L.length) : ∀ k, InvN V L.length (seqN V es L k)
  | 0 => ⟨by simp [seqN], by simp [seqN, hL]⟩
  | k + 1 => (seqN_inv hL k).hang _ (kids_rg V es L _)
/-- all have been gone through -/
def EndN (V : Nat) (es : List (Nat × Nat)) (L : List (List Nat)) (k : Nat) : Prop := (seqN V es L k).length = k ∧ ∀ j, j < k → j < (seqN V es L j).length
theorem EndN.one {V : Nat} {es : List (Nat × Nat)} {L : List (List Nat)} {k k' : Nat} (h : EndN V es L k) (h' : EndN V es L k') : k = k' := by
  rcases Nat.lt_trichotomy k k' with e | e | e
  · have := h'.2 k e; have := h.1; omega
  · exact e
  · have := h.2 k' e; have := h'.1; omega
/-- the ends of a block that are cut vertices -/
theorem kids_ends (V : Nat) (es : List (Nat × Nat)) (L : List (List Nat)) (b : Nat) : (endsOf V es (L.getD b [])).filter (fun x => decide (1 < (plK es L L.length x).length)) = (cutsOf V es L V).filter fun x => hasAt es (L.getD b []) x := by
  unfold endsOf cutsOf
  rw [List.filter_filter, List.filter_filter]
  refine List.filter_congr fun x _ => ?_
  rw [Bool.and_comm]
/-- nodes as cells -/
def ncells (N : List Nd) : List Value := N.flatMap fun n => [.bool n.1, .int .i64 (n.2.1 : Int), .int .i64 n.2.2]
theorem ncells_snoc (N : List Nd) (n : Nd) : ncells (N ++ [n]) = ncells N ++ [.bool n.1, .int .i64 (n.2.1 : Int), .int .i64 n.2.2] := by simp [ncells]
theorem ncells_length (N : List Nd) : (ncells N).length = N.length * 3 := by
  induction N with
  | nil => rfl
  | cons n N ih =>
    have : ncells (n :: N) = [Value.bool n.1, .int .i64 (n.2.1 : Int), .int .i64 n.2.2] ++ ncells N := by simp [ncells]
    rw [this, List.length_append, ih]
    simp
    omega
theorem ncells_at (N : List Nd) : ∀ k, k < N.length → (ncells N)[k * 3]? = some (.bool (N.getD k (false, 0, 0)).1) ∧ (ncells N)[k * 3 + 1]? = some (.int .i64 ((N.getD k (false, 0, 0)).2.1 : Int)) ∧ (ncells N)[k * 3 + 2]? = some (.int .i64 (N.getD k (false, 0, 0)).2.2) := by
  induction N with
  | nil => intro k hk; simp at hk
  | cons n N ih =>
    intro k hk
    have h2 : ncells (n :: N) = .bool n.1 :: .int .i64 (n.2.1 : Int) :: .int .i64 n.2.2 :: ncells N := by simp [ncells]
    rw [h2]
    cases k with
    | zero => simp
    | succ k =>
      have := ih k (by simpa using hk)
      rw [show (k + 1) * 3 = k * 3 + 1 + 1 + 1 by omega]
      simpa using this
/-- nodes that are read -/
def Rn3 (w : World) (a : Option Addr) (n : Nat) (N : List Nd) : Prop := N.length = n ∧ ∀ k, k < n → ∃ g off, a = some ⟨g, off, none⟩ ∧ g < w.heap.size ∧ w.cell? ⟨g, off + k * 3, none⟩ = some (.bool (N.getD k (false, 0, 0)).1) ∧ w.cell? ⟨g, off + k * 3 + 1, none⟩ = some (.int .i64 ((N.getD k (false, 0, 0)).2.1 : Int)) ∧ w.cell? ⟨g, off + k * 3 + 2, none⟩ = some (.int .i64 (N.getD k (false, 0, 0)).2.2)
theorem Rn3.below {w w' : World} {a : Option Addr} {n : Nat} {N : List Nd} (h : Rn3 w a n N) (hb : Below w.heap.size w w') : Rn3 w' a n N := by
  refine ⟨h.1, fun k hk => ?_⟩
  obtain ⟨g, off, ha, hg, c0, c1, c2⟩ := h.2 k hk
  exact ⟨g, off, ha, Nat.lt_of_lt_of_le hg hb.size, (hb.cell (p := ⟨g, off + k * 3, none⟩) hg).trans c0, (hb.cell (p := ⟨g, off + k * 3 + 1, none⟩) hg).trans c1, (hb.cell (p := ⟨g, off + k * 3 + 2, none⟩) hg).trans c2⟩
theorem rn_of_owns {w : World} {base : Nat} {v : Value} {n : Nat} {N : List Nd} (h : w.ownsRow base 35 3 v n (ncells N)) : ∃ a cap, v = .slice a n cap ∧ Rn3 w a n N := by
  have hl : N.length = n := by have := h.1; rw [ncells_length] at this; omega
  rcases h.2 with ⟨rfl, rfl⟩ | ⟨g, cap, cur, rfl, hb, hg, h1, h2, h3, h4⟩
  · exact ⟨none, 0, rfl, hl, fun k hk => by omega⟩
  · refine ⟨_, cap, rfl, hl, fun k hk => ⟨g, 0, rfl, (Array.getElem?_eq_some_iff.1 hg).1, ?_, ?_, ?_⟩⟩
    · rw [Nat.zero_add, h.cellAt (k * 3) (by omega), (ncells_at N k (by omega)).1]
    · rw [Nat.zero_add, h.cellAt (k * 3 + 1) (by omega), (ncells_at N k (by omega)).2.1]
    · rw [Nat.zero_add, h.cellAt (k * 3 + 2) (by omega), (ncells_at N k (by omega)).2.2]
end Go.Proofs.Ytbecmaandhadhaa.pt
namespace Go.Proofs.Ytbecmaandhadhaa.pt
open Go.RowKit
set_option linter.unusedVariables false
set_option maxRecDepth 20000

theorem info35 : (Try.prog.info? 35).map (fun i => (i.zero, i.size, i.bytes)) = some (some (.agg #[.bool false, .int .i64 0, .int .i64 0]), 3, 24) := by kernel_rfl
set_option maxHeartbeats 2000000 in
theorem isNode_any (u : World) (nc c : Bool) (na x : Nat) (np : Int) (gc gx : Nat) (h1 : u.cell? ⟨gc, 0, none⟩ = some (.bool c)) (h2 : u.cell? ⟨gx, 0, none⟩ = some (.int .i64 (x : Int))) (hgc : gc < u.heap.size) (hgx : gx < u.heap.size) :
    Calls Try.prog 31 #[.agg #[.bool nc, .int .i64 (na : Int), .int .i64 np], .pointer (some ⟨gc, 0, none⟩), .pointer (some ⟨gx, 0, none⟩)] u fun e w' => e = .returned (.bool (nc == c && na == x)) ∧ Below u.heap.size u w' := by
  have q1 : (u.alloc (.cells #[.bool nc, .int .i64 (na : Int), .int .i64 np] 35)).cell? ⟨gc, 0, none⟩ = some (.bool c) := (cell_old _ _ _ hgc).trans h1
  have q2 : (u.alloc (.cells #[.bool nc, .int .i64 (na : Int), .int .i64 np] 35)).cell? ⟨gx, 0, none⟩ = some (.int .i64 (x : Int)) := (cell_old _ _ _ hgx).trans h2
  by_cases hx : na = x
  · have t1 : ((na : Int) == (x : Int)) = true := by simp [hx]
    have t2 : (na == x) = true := by simp [hx]
    have HX := hide hx
    have HT2 := hide t2
    clear hx t2
    cases nc <;> cases c
    all_goals (go_enter Try.func31, Try.ntmps31; go_wp2; go_ret; exact ⟨ret_b (by rw [unhide HT2]; rfl), b_al _⟩)
  · have t1 : ((na : Int) == (x : Int)) = false := by simp; omega
    have t2 : (na == x) = false := by simp [hx]
    have HX := hide hx
    have HT2 := hide t2
    clear hx t2
    cases nc <;> cases c
    all_goals (go_enter Try.func31, Try.ntmps31; go_wp2; go_ret; exact ⟨ret_b (by rw [unhide HT2]; rfl), b_al _⟩)

set_option maxHeartbeats 2000000 in
theorem indexNode_any (w : World) (a : Option Addr) (n c : Nat) (N : List Nd) (h : Rn3 w a n N) (hn : n ≤ 100000) (cc : Bool) (x gc gx : Nat) (lb : Array Value) (hlb : lb = #[.pointer (some ⟨gc, 0, none⟩), .pointer (some ⟨gx, 0, none⟩)]) (h1 : w.cell? ⟨gc, 0, none⟩ = some (.bool cc)) (h2 : w.cell? ⟨gx, 0, none⟩ = some (.int .i64 (x : Int))) (hgc : gc < w.heap.size) (hgx : gx < w.heap.size) :
    Calls Try.prog 49 #[.slice a n c, .func (.func 31) #[] lb] w fun e w' => e = .returned (.int .i64 (ixp n fun j => (N.getD j (false, 0, 0)).1 == cc && (N.getD j (false, 0, 0)).2.1 == x)) ∧ Below w.heap.size w w' := by
  subst hlb
  have HC := hide h
  have H1 := hide h1
  have H2 := hide h2
  clear h h1 h2
  go_enter Try.func49, Try.ntmps49
  go_wp2
  have HB0 := hide (Below.refl w.heap.size w)
  go_loopw [8] (fun i wr => ∃ k : Nat, i = .int .i64 k ∧ k ≤ n ∧ Hid (Below w.heap.size w wr) ∧ Hid (∀ j, j < k → ((N.getD j (false, 0, 0)).1 == cc && (N.getD j (false, 0, 0)).2.1 == x) = false)) (fun i wr => n - (intOf i).toNat)
  case atStart => exact ⟨0, rfl, by omega, HB0, fun j hj => by omega⟩
  case round =>
    clear HB0
    obtain ⟨k, rfl, hk, HB, HA⟩ := hrel
    by_cases hlt : k < n
    · obtain ⟨g, off, ha, hg, d0, d1, d2⟩ := ((unhide HC).below (unhide HB)).2 k hlt
      subst ha
      obtain ⟨nd, hnd⟩ : ∃ x, N.getD k (false, 0, 0) = x := ⟨_, rfl⟩
      rw [hnd] at d0 d1 d2
      have HND := hide hnd
      clear hnd
      obtain ⟨nc, na, np⟩ := nd
      simp only at d0 d1 d2
      have hlt2 : (k : Int) < (n : Int) := by omega
      have CC := hide (isNode_any wr nc cc na x np gc gx (((unhide HB).cell (p := ⟨gc, 0, none⟩) hgc).trans (unhide H1)) (((unhide HB).cell (p := ⟨gx, 0, none⟩) hgx).trans (unhide H2)) (Nat.lt_of_lt_of_le hgc (unhide HB).size) (Nat.lt_of_lt_of_le hgx (unhide HB).size))
      cases hb : (nc == cc && na == x) with
      | true =>
        rw [hb] at CC
        have HBB := hide hb
        clear hb
        go_wp2_with fail
        refine (unhide CC).mono ?_
        rintro e w' ⟨rfl, hb1⟩
        have HB1 := hide hb1
        clear hb1
        go_wp2_with fail
        go_ret
        exact ⟨ret_i (ixp_hit k hlt (by rw [unhide HND]; exact unhide HBB) (unhide HA)).symm, bto (unhide HB) (unhide HB1)⟩
      | false =>
        rw [hb] at CC
        have HBB := hide hb
        clear hb
        go_wp2_with fail
        refine (unhide CC).mono ?_
        rintro e w' ⟨rfl, hb1⟩
        have HB1 := hide hb1
        clear hb1
        go_wp2_with fail
        go_roundw
        case rel =>
          refine ⟨k + 1, by go_num, by omega, bto (unhide HB) (unhide HB1), fun j hj => ?_⟩
          by_cases hjk : j < k
          · exact unhide HA j hjk
          · obtain rfl : j = k := by omega
            rw [unhide HND]
            exact unhide HBB
        case measure => simp [intOf]; omega
    · go_wp2
      go_ret
      exact ⟨ret_i (ixp_miss (fun j hj => unhide HA j (by omega))).symm, unhide HB⟩

theorem hasN_iff (N : List Nd) (c : Bool) (x : Nat) : hasN N c x = true ↔ ∃ j, j < N.length ∧ ((N.getD j (false, 0, 0)).1 == c && (N.getD j (false, 0, 0)).2.1 == x) = true := by
  unfold hasN
  rw [List.any_eq_true]
  constructor
  · rintro ⟨n, hn, h⟩
    obtain ⟨j, hj, rfl⟩ := List.mem_iff_getElem.1 hn
    exact ⟨j, hj, by simpa [List.getD, hj] using h⟩
  · rintro ⟨j, hj, h⟩
    exact ⟨N[j], List.getElem_mem hj, by simpa [List.getD, hj] using h⟩
set_option maxHeartbeats 1000000 in
theorem containsNode_any (w : World) (a : Option Addr) (n c : Nat) (N : List Nd) (h : Rn3 w a n N) (hn : n ≤ 100000) (cc : Bool) (x gc gx : Nat) (h1 : w.cell? ⟨gc, 0, none⟩ = some (.bool cc)) (h2 : w.cell? ⟨gx, 0, none⟩ = some (.int .i64 (x : Int))) (hgc : gc < w.heap.size) (hgx : gx < w.heap.size) :
    Calls Try.prog 30 #[.slice a n c, .func (.func 31) #[] #[.pointer (some ⟨gc, 0, none⟩), .pointer (some ⟨gx, 0, none⟩)]] w fun e w' => e = .returned (.bool (hasN N cc x)) ∧ Below w.heap.size w w' := by
  have HC := hide (indexNode_any w a n c N h hn cc x gc gx _ rfl h1 h2 hgc hgx)
  have HL := hide h.1
  clear h h1 h2
  go_enter Try.func30, Try.ntmps30
  go_wp2_with fail
  refine (unhide HC).mono ?_
  rintro e w' ⟨rfl, hb⟩
  obtain ⟨r, hr⟩ : ∃ r, (ixp n fun j => (N.getD j (false, 0, 0)).1 == cc && (N.getD j (false, 0, 0)).2.1 == x) = r := ⟨_, rfl⟩
  rw [hr]
  have HR := hide hr
  have HB := hide hb
  clear hb hr
  go_wp2
  go_ret
  refine ⟨ret_b ?_, unhide HB⟩
  have hl := unhide HL
  rcases ixp_cases n (fun j => (N.getD j (false, 0, 0)).1 == cc && (N.getD j (false, 0, 0)).2.1 == x) with ⟨h1, h2⟩ | ⟨m, h1, h2, h3, h4⟩
  · rw [unhide HR] at h1
    have : hasN N cc x = false := by
      cases hh : hasN N cc x with
      | false => rfl
      | true =>
        obtain ⟨j, hj, hjj⟩ := (hasN_iff N cc x).1 hh
        have := h2 j (by omega)
        rw [this] at hjj
        cases hjj
    rw [this, h1]
    decide
  · rw [unhide HR] at h1
    have : hasN N cc x = true := (hasN_iff N cc x).2 ⟨m, by omega, h3⟩
    rw [this, h1]
    exact decide_eq_true (by omega)

/-- the nodes that have been hung, in a row of their own, told by a box -/
structure Hn (base gn : Nat) (u : World) (N : List Nd) (nv : Value) : Prop where
  lt : gn < base
  sz : base ≤ u.heap.size
  bx : u.heap[gn]? = some (.cells #[nv] 31 (0, 0))
  own : u.ownsRow base 35 3 nv N.length (ncells N)
/-- what stays while nodes are hung: all ahead of their box, and rows of numbers -/
structure Ft (gn : Nat) (u u' : World) : Prop where
  bel : Below gn u u'
  t3 : ∀ (b : Nat) (cur : Array Value) (fz : Nat × Nat), u.heap[b]? = some (Obj.cells cur 3 fz) → u'.heap[b]? = u.heap[b]?
theorem Ft.refl (gn : Nat) (u : World) : Ft gn u u := ⟨Below.refl _ _, fun _ _ _ _ => rfl⟩
theorem Ft.trans {gn : Nat} {u0 u1 u2 : World} (h1 : Ft gn u0 u1) (h2 : Ft gn u1 u2) : Ft gn u0 u2 := ⟨h1.bel.trans h2.bel, fun b cur fz hb => (h2.t3 b cur fz ((h1.t3 b cur fz hb).trans hb)).trans (h1.t3 b cur fz hb)⟩
theorem Ft.of {gn : Nat} {u0 u : World} (hg : gn ≤ u0.heap.size) (h : Below u0.heap.size u0 u) : Ft gn u0 u := ⟨h.mono hg, fun b cur fz hb => h.block b (Array.getElem?_eq_some_iff.1 hb).1⟩
theorem Hn.step {base gn : Nat} {u u' : World} {N : List Nd} {nv : Value} (h : Hn base gn u N nv) (hb : Below u.heap.size u u') : Hn base gn u' N nv :=
  ⟨h.lt, Nat.le_trans h.sz hb.size, (hb.block gn (Array.getElem?_eq_some_iff.1 h.bx).1).trans h.bx, owns_below h.own hb⟩
theorem Hn.cell {base gn : Nat} {u : World} {N : List Nd} {nv : Value} (h : Hn base gn u N nv) : u.cell? ⟨gn, 0, none⟩ = some nv ∧ u.frozen? ⟨gn, 0, none⟩ = false ∧ gn < u.heap.size := by
  refine ⟨by simp [World.cell?, h.bx], by simp [World.frozen?, h.bx], (Array.getElem?_eq_some_iff.1 h.bx).1⟩
/-- one node more -/
theorem Hn.put {base gn : Nat} {u u' : World} {N : List Nd} {nv v' : Value} {n : Nd} (h : Hn base gn u N nv) (ho : u'.ownsRow base 35 3 v' (N.length + 1) (ncells N ++ [.bool n.1, .int .i64 (n.2.1 : Int), .int .i64 n.2.2])) (hg : u.grownBy u' nv.ownBlock) :
    (u'.cell? ⟨gn, 0, none⟩ = some nv ∧ u'.frozen? ⟨gn, 0, none⟩ = false ∧ gn < u'.heap.size) ∧ Hn base gn (u'.setCell ⟨gn, 0, none⟩ v') (N ++ [n]) v' ∧ Ft gn u (u'.setCell ⟨gn, 0, none⟩ v') := by
  have hlt := h.lt
  have hsz := h.sz
  have hgn := h.cell.2.2
  have hne : ∀ (b : Nat) (cur : Array Value) (ty : TypeId) (fz : Nat × Nat), u.heap[b]? = some (Obj.cells cur ty fz) → ty ≠ 35 → u'.heap[b]? = u.heap[b]? := fun b cur ty fz hb ht => hg.block b (Array.getElem?_eq_some_iff.1 hb).1 fun e => by
    obtain ⟨c2, h2⟩ := owns_type h.own e.symm
    rw [hb] at h2
    simp at h2
    exact ht h2.2.1
  have hbx : u'.heap[gn]? = some (.cells #[nv] 31 (0, 0)) := (hne gn _ _ _ h.bx (by decide)).trans h.bx
  have hst : ∀ b, b ≠ gn → (u'.setCell ⟨gn, 0, none⟩ v').heap[b]? = u'.heap[b]? := fun b hb => Below.heap_setCell _ _ _ _ hb
  have hs : (u'.setCell ⟨gn, 0, none⟩ v').heap.size = u'.heap.size := by simp [World.setCell]
  refine ⟨⟨by simp [World.cell?, hbx], by simp [World.frozen?, hbx], (Array.getElem?_eq_some_iff.1 hbx).1⟩, ⟨hlt, by rw [hs]; exact Nat.le_trans hsz hg.size, by simp [World.setCell, Array.getElem?_modify, hbx], ?_⟩, ⟨?_, ?_⟩⟩
  · rw [List.length_append, ncells_snoc]
    refine owns_keep ho fun g hgg => hst g ?_
    have := (ho.lt g hgg).1
    omega
  · have h1 : Below gn u u' := (Below.refl _ _).grown hg (by omega) fun k hk => by have := (h.own.lt k hk).1; omega
    exact h1.setCell (p := ⟨gn, 0, none⟩) (Nat.le_refl _) v'
  · intro b cur fz hb
    rw [hst b (fun e => by rw [e, h.bx] at hb; simp at hb), hne b _ _ _ hb (by decide)]

theorem cell_three_new (w : World) (x y z : Value) (t : TypeId) : ∀ j u, [x, y, z][j]? = some u → (w.alloc (.cells #[x, y, z] t)).cell? ((⟨w.heap.size, 0, none⟩ : Addr).add j) = some u := by
  intro j u hj
  match j, hj with
  | 0, hj => simp at hj; subst hj; simp [Addr.add]
  | 1, hj => simp at hj; subst hj; simp [Addr.add]
  | 2, hj => simp at hj; subst hj; simp [Addr.add]
theorem three_n (c : Bool) (x y : Int) : ∀ u ∈ [Value.bool c, Value.int .i64 x, Value.int .i64 y], u.oneCell' = true := by
  intro u hu
  simp only [List.mem_cons, List.not_mem_nil, or_false] at hu
  rcases hu with rfl | rfl | rfl <;> rfl

set_option maxHeartbeats 4000000 in
theorem hang_any (w : World) (par : Int) (c : Bool) (la : Option Addr) (ln lc : Nat) (l : List Nat) (hl : Ns w la ln (toIs l)) (h3 : ∀ g off, la = some ⟨g, off, none⟩ → ∃ (cur : Array Value) (fz : Nat × Nat), w.heap[g]? = some (Obj.cells cur 3 fz)) (base gn : Nat) (N : List Nd) (nv : Value) (H : Hn base gn w N nv) (hb1 : ∀ t, t ≤ ln → (hangK N par c (l.take t)).length ≤ 1000) (hln : ln ≤ 1000) :
    Calls Try.prog 29 #[.int .i64 par, .bool c, .slice la ln lc, .pointer (some ⟨gn, 0, none⟩)] w fun e w' => e = .returned (.tuple #[]) ∧ (∃ nv', Hn base gn w' (hangK N par c l) nv') ∧ Ft gn w w' := by
  have hll : l.length = ln := by have := hl.1; rwa [toIs_length] at this
  have HL := hide hl
  have H3 := hide h3
  have HLL := hide hll
  have HBD := hide hb1
  have hgw := H.cell.2.2
  have HN0 := hide (show Hn base gn (w.alloc (.cells #[.bool c] 4)) (hangK N par c (l.take 0)) nv from H.step (b_al _))
  have HF0 := hide (Ft.of (u0 := w) (gn := gn) (Nat.le_of_lt hgw) (b_al (.cells #[.bool c] 4)))
  have HC0 := hide (MapKept.heap_alloc w (.cells #[.bool c] 4)).1
  obtain ⟨k0, hk0, hy0, hy1, hy2⟩ := info_parts info35
  have HK := hide hk0
  have HY0 := hide hy0
  have HY1 := hide hy1
  have HY2 := hide hy2
  clear hl h3 hll hb1 hk0 hy0 hy1 hy2 H
  go_enter Try.func29, Try.ntmps29
  go_wp2_with fail
  go_loopw [11] (fun v11 wr => ∃ (t : Nat) (nv' : Value), v11 = .int .i64 t ∧ t ≤ ln ∧ Hid (Hn base gn wr (hangK N par c (l.take t)) nv') ∧ Hid (Ft gn w wr) ∧ Hid (wr.heap[w.heap.size]? = some (.cells #[.bool c] 4 (0, 0)))) (fun v11 wr => ln - (intOf v11).toNat)
  case atStart => exact ⟨0, nv, rfl, by omega, HN0, HF0, HC0⟩
  case round =>
    clear HN0 HF0 HC0
    obtain ⟨t, nv', rfl, ht, HN, HF, HC⟩ := hrel
    by_cases htl : t < ln
    · have htl2 : (t : Int) < (ln : Int) := by omega
      obtain ⟨gl, ol, hla, hgl, cl⟩ := (unhide HL).2.2 t htl
      subst hla
      obtain ⟨cur, fz, hcur⟩ := unhide H3 gl ol rfl
      rw [toIs_getD] at cl
      have hsn := take_snocN (B := l) (t := t) (by rw [unhide HLL]; exact htl)
      have hbt := unhide HBD t ht
      have hbt1 := unhide HBD (t + 1) htl
      rw [hsn, hangK_snoc] at hbt1
      have HSN := hide (show hangK N par c (l.take (t + 1)) = put1 (hangK N par c (l.take t)) par c (l.getD t 0) by rw [hsn, hangK_snoc])
      have dl : wr.cell? ⟨gl, ol + t, none⟩ = some (.int .i64 ((l.getD t 0 : Nat) : Int)) := (World.cell?_of_block ((unhide HF).t3 gl cur fz hcur)).trans cl
      have hglr : gl < wr.heap.size := Nat.lt_of_lt_of_le hgl (unhide HF).bel.size
      generalize l.getD t 0 = x at dl HSN hbt1
      generalize hangK N par c (l.take t) = M at HN HSN hbt hbt1
      clear hsn cl hcur
      obtain ⟨na, ncap, hnv, hrn⟩ := rn_of_owns (unhide HN).own
      subst hnv
      obtain ⟨c1, c2, c3⟩ := (unhide HN).cell
      have hcs := (Array.getElem?_eq_some_iff.1 (unhide HC)).1
      have hc0 : wr.cell? ⟨w.heap.size, 0, none⟩ = some (.bool c) := by simp [World.cell?, unhide HC]
      have CN := hide (containsNode_any (wr.alloc (.cells #[.int .i64 (x : Int)] 3)) na M.length ncap M (hrn.below (b_al _)) (by omega) c x w.heap.size wr.heap.size ((cell_old _ _ _ hcs).trans hc0) (by simp) (by simp; omega) (by simp))
      have HNa := hide ((unhide HN).step (b_al (.cells #[.int .i64 (x : Int)] 3)))
      have HFa := hide ((unhide HF).trans (Ft.of (Nat.le_of_lt c3) (b_al (w := wr) (.cells #[.int .i64 (x : Int)] 3))))
      have HCa := hide (show (wr.alloc (.cells #[.int .i64 (x : Int)] 3)).heap[w.heap.size]? = some (.cells #[.bool c] 4 (0, 0)) from ((b_al (w := wr) (.cells #[.int .i64 (x : Int)] 3)).block _ hcs).trans (unhide HC))
      have HXa := hide (MapKept.heap_alloc wr (.cells #[.int .i64 (x : Int)] 3)).1
      clear hrn HN HF HC hc0
      go_wp2_with fail
      refine (unhide CN).mono ?_
      rintro e w7 ⟨rfl, hb7⟩
      have HN7 := hide ((unhide HNa).step hb7)
      have HF7 := hide ((unhide HFa).trans (Ft.of (Nat.le_of_lt (unhide HNa).cell.2.2) hb7))
      have HC7 := hide ((hb7.block _ (by simp; omega)).trans (unhide HCa))
      have HX7 := hide ((hb7.block _ (by simp)).trans (unhide HXa))
      generalize wr.heap.size = gx at HX7 ⊢
      clear hb7 HNa HFa HCa HXa CN c1 c2 c3 dl hglr hcs
      cases hh : hasN M c x with
      | true =>
        have HSN2 := hide (show hangK N par c (l.take (t + 1)) = M by rw [unhide HSN, put1, if_pos hh])
        clear hh
        go_wp2_with fail
        go_roundw
        case rel => exact ⟨t + 1, _, by go_num, by omega, by rw [unhide HSN2]; exact HN7, HF7, HC7⟩
        case measure => simp [intOf]; omega
      | false =>
        have hp1 : put1 M par c x = M ++ [(c, x, par)] := by rw [put1, if_neg (by rw [hh]; simp)]
        have HSN2 := hide (show hangK N par c (l.take (t + 1)) = M ++ [(c, x, par)] by rw [unhide HSN, hp1])
        rw [hp1, List.length_append] at hbt1
        clear hh hp1
        obtain ⟨c1, c2, c3⟩ := (unhide HN7).cell
        have d1 : w7.cell? ⟨w.heap.size, 0, none⟩ = some (.bool c) := by simp [World.cell?, unhide HC7]
        have d2 : w7.cell? ⟨gx, 0, none⟩ = some (.int .i64 (x : Int)) := by simp [World.cell?, unhide HX7]
        have HSZ := hide (unhide HN7).sz
        go_wp2_with (at_builtin; refine wpList_append_own _ rfl (.tmp 19) (.tmp 24) 31 rfl base 35 k0 (.agg #[.bool false, .int .i64 0, .int .i64 0]) 3 24 Try.underlying31 (unhide HK) (unhide HY0) (unhide HY1) (unhide HY2) rfl (by decide) (.slice na M.length ncap) M.length _ rfl ((unhide HN7).own.alloc _) ⟨w7.heap.size, 0, none⟩ 1 1 [.bool c, .int .i64 (x : Int), .int .i64 par] rfl rfl (cell_three_new _ _ _ _ _) (three_n _ _ _) ?a3 ?a4 ?a5 ?_)
        case a3 => unfold maxLen; omega
        case a4 => omega
        case a5 => have := unhide HSZ; simp; omega
        intro v8 w8 ho8 hg8 _
        obtain ⟨v8a, v8c, hv8⟩ := owns_slice ho8
        subst hv8
        obtain ⟨⟨e1, e2, e3⟩, hn8, hf8⟩ := Hn.put (n := (c, x, par)) ((unhide HN7).step (b_al (.cells #[.bool c, .int .i64 (x : Int), .int .i64 par] 35))) ho8 hg8
        have HN8 := hide hn8
        have HF8 := hide ((unhide HF7).trans ((Ft.of (Nat.le_of_lt c3) (b_al _)).trans hf8))
        have HC8 := hide (show (w8.setCell ⟨gn, 0, none⟩ (.slice v8a (M.length + 1) v8c)).heap[w.heap.size]? = some (.cells #[.bool c] 4 (0, 0)) from by
          rw [Below.heap_setCell _ _ _ _ (show w.heap.size ≠ gn by omega)]
          have hin : (w7.alloc (.cells #[.bool c, .int .i64 (x : Int), .int .i64 par] 35)).heap[w.heap.size]? = some (.cells #[.bool c] 4 (0, 0)) := ((b_al _).block _ (Array.getElem?_eq_some_iff.1 (unhide HC7)).1).trans (unhide HC7)
          rw [hg8.block _ (Array.getElem?_eq_some_iff.1 hin).1 ?_]
          · exact hin
          · intro e
            obtain ⟨c2', h2'⟩ := owns_type ((unhide HN7).own.alloc _) e.symm
            rw [hin] at h2'
            simp at h2')
        clear ho8 hg8 hn8 hf8 c1 c2 c3 d1 d2 HN7 HF7 HC7 HX7
        go_wp2_with fail
        go_roundw
        case rel => exact ⟨t + 1, _, by go_num, by omega, by rw [unhide HSN2]; exact HN8, HF8, HC8⟩
        case measure => simp [intOf]; omega
    · obtain rfl : ln = t := by omega
      have htk : l.take ln = l := List.take_of_length_le (by rw [unhide HLL]; exact Nat.le_refl _)
      have HNE := hide (show Hn base gn wr (hangK N par c l) nv' by have := unhide HN; rwa [htk] at this)
      clear HN htk
      go_wp2_with fail
      go_end0
      exact ⟨rfl, ⟨_, unhide HNE⟩, unhide HF⟩
end Go.Proofs.Ytbecmaandhadhaa.pt
namespace Go.Proofs.Ytbecmaandhadhaa.pt
open Go.RowKit Go.Shelf Go.Lib Go.Sort
set_option linter.unusedVariables false
set_option maxRecDepth 20000

/-- where the places of blocks lie -/
structure Ta (W : World) (gat tg V : Nat) (F : Nat → List Nat) : Prop where
  bx : W.cell? ⟨gat, 0, none⟩ = some (.slice (some ⟨tg, 0, none⟩) V V)
  row : ∀ x, x < V → ∃ a c, W.cell? ⟨tg, x, none⟩ = some (.slice a (F x).length c)
theorem Ta.keep {W W' : World} {gat tg V : Nat} {F : Nat → List Nat} (h : Ta W gat tg V F) (h1 : W'.heap[gat]? = W.heap[gat]?) (h2 : W'.heap[tg]? = W.heap[tg]?) : Ta W' gat tg V F :=
  ⟨(World.cell?_of_block h1).trans h.bx, fun x hx => by obtain ⟨a, c, e⟩ := h.row x hx; exact ⟨a, c, (World.cell?_of_block h2).trans e⟩⟩
set_option maxHeartbeats 1000000 in
theorem gives32 {V : Nat} {F : Nat → List Nat} {gat tg : Nat} {W : World} (h : Ta W gat tg V F) {x : Nat} (hx : x < V) (hF : (F x).length ≤ 1000) :
    FnGives Try.prog 32 #[.pointer (some ⟨gat, 0, none⟩)] #[.int .i64 (x : Int)] (.bool (decide ((F x).length < 2))) W := by
  show Calls Try.prog 32 #[.int .i64 (x : Int), .pointer (some ⟨gat, 0, none⟩)] W _
  obtain ⟨a, c, e⟩ := h.row x hx
  have b := h.bx
  have hx2 : (x : Int) < (V : Int) := by omega
  generalize (F x).length = m at e hF ⊢
  have HM : decide ((m : Int) < 2) = decide (m < 2) := decide_eq_decide.2 (by omega)
  have HH := hide HM
  clear h HM
  go_enter Try.func32, Try.ntmps32
  go_wp2
  go_ret
  exact ⟨ret_b (by first | exact unhide HH | simp), 0, rfl⟩

theorem zero3' (w : World) : (zeroValue 3).run Try.prog w = .ok (.int .i64 0) w := by kernel_rfl
theorem filter_le {α : Type} (p : α → Bool) (l : List α) : (l.filter p).length ≤ l.length := List.length_filter_le _ _
set_option maxHeartbeats 1000000 in
theorem del_any (w : World) (base g c : Nat) (E : List Nat) (V : Nat) (hV : 0 < V) (hE : ∀ x ∈ E, x < V) (hEl : E.length ≤ 1000) (ho : w.ownsRow base 3 1 (.slice (some ⟨g, 0, none⟩) E.length c) E.length (zcells (toIs E))) (gat tg : Nat) (F : Nat → List Nat) (hT : Ta w gat tg V F) (hF : ∀ x, x < V → (F x).length ≤ 1000) (hgat : gat < w.heap.size) (htg : tg < w.heap.size) (n1 : gat ≠ g) (n2 : tg ≠ g) :
    Calls Try.prog 33 #[.slice (some ⟨g, 0, none⟩) E.length c, .func (.func 32) #[] #[.pointer (some ⟨gat, 0, none⟩)]] w fun e w' => e = .returned (.slice (some ⟨g, 0, none⟩) (E.filter fun x => decide (1 < (F x).length)).length c) ∧
      Ns w' (some ⟨g, 0, none⟩) (E.filter fun x => decide (1 < (F x).length)).length (toIs (E.filter fun x => decide (1 < (F x).length))) ∧ (∃ (cur : Array Value) (fz : Nat × Nat), w'.heap[g]? = some (Obj.cells cur 3 fz)) ∧ w.grownBy w' (some g) := by
  obtain ⟨cur, hg, hcap, hsz, hcur⟩ : ∃ cur, w.heap[g]? = some (.cells cur 3 (0, 0)) ∧ E.length ≤ c ∧ cur.size = c ∧ cur.toList.take E.length = zcells (toIs E) := by
    rcases ho.2 with ⟨hv, _⟩ | ⟨g', c', cur, hv, _, h2, h3, h4, h5, h6⟩
    · cases hv
    · cases hv
      exact ⟨cur, h2, h3, by rw [h5, Nat.mul_one], by rw [Nat.mul_one] at h6; exact h6⟩
  have hcl : c ≤ maxLen := by
    rcases ho.2 with ⟨hv, _⟩ | ⟨g', c', cur', hv, _, _, _, h4, _⟩
    · cases hv
    · cases hv; exact h4
  let enc : Nat → Value := fun x => .int .i64 ((x % V : Nat) : Int)
  have hm : ∀ x, x % V < V := fun x => Nat.mod_lt _ hV
  have eg : ∀ args w, (callFunc 32 args).run Try.prog w = .ok (.enter 32 args) w := enters_of Try.func32 (by kernel_rfl) rfl
  have hH : Holds enc w g 0 E.toArray := fun j hj => by
    have hj' : j < E.length := by simpa using hj
    have hjv : E[j] < V := hE _ (List.getElem_mem hj')
    refine ⟨?_, by simp [World.frozen?, hg]⟩
    rw [Nat.zero_add]
    have h1 : (cur.toList.take E.length)[j]? = (zcells (toIs E))[j]? := by rw [hcur]
    rw [List.getElem?_take_of_lt hj', Array.getElem?_toList] at h1
    have h2 : (zcells (toIs E))[j]? = some (.int .i64 ((E[j] : Nat) : Int)) := by simp [zcells, toIs, hj']
    rw [h2] at h1
    have h3 : E.toArray[j]! = E[j] := by simp [hj']
    simp only [World.cell?, hg, h1, h3, enc, Nat.mod_eq_of_lt hjv]
    rfl
  have hcon := AnyE.slices_DeleteFunc Try.lays33 enc (fun _ => rfl) (fun x => decide ((F (x % V)).length < 2)) 32 #[.pointer (some ⟨gat, 0, none⟩)] eg 0 (fun w => by
      have h0 : enc 0 = .int .i64 0 := by simp [enc]
      rw [h0]
      exact zero3' w) g 0 c E.toArray w
    (fun W x hb => gives32 (hT.keep (hb.block gat hgat) (hb.block tg htg)) (hm x) (hF _ (hm x)))
    (fun n os dk x _ => gives32 (hT.keep (heap_sortWorld hgat n1) (heap_sortWorld htg n2)) (hm x) (hF _ (hm x))) hH (by simp; unfold maxLen at hcl; omega) (by simpa using hcap)
  have hfil : (E.filter fun x => !decide ((F (x % V)).length < 2)) = E.filter fun x => decide (1 < (F x).length) := List.filter_congr fun x hx => by
    rw [Nat.mod_eq_of_lt (hE x hx)]
    by_cases h : (F x).length < 2
    · simp [h]; omega
    · simp [h]; omega
  have hcon : Calls Try.prog 33 #[.slice (some ⟨g, 0, none⟩) E.length c, .func (.func 32) #[] #[.pointer (some ⟨gat, 0, none⟩)]] w fun e w' => e = .returned (.slice (some ⟨g, 0, none⟩) (E.filter fun x => !decide ((F (x % V)).length < 2)).length c) ∧ ∃ q, w' = putRow enc (Sort.ahead w q) g 0 ((E.filter fun x => !decide ((F (x % V)).length < 2)) ++ List.replicate (E.length - (E.filter fun x => !decide ((F (x % V)).length < 2)).length) 0).toArray := by
    simp only [List.size_toArray] at hcon
    exact hcon
  rw [hfil] at hcon
  refine hcon.mono ?_
  rintro e w' ⟨rfl, q, rfl⟩
  have hfl : (E.filter fun x => decide (1 < (F x).length)).length ≤ E.length := filter_le _ _
  have hfm : ∀ x ∈ E.filter (fun x => decide (1 < (F x).length)), x < V := fun x hx => hE x (List.mem_filter.1 hx).1
  generalize (E.filter fun x => decide (1 < (F x).length)) = E' at hfl hfm ⊢
  generalize hd : (E' ++ List.replicate (E.length - E'.length) 0).toArray = d
  have hds : d.size = E.length := by rw [← hd]; simp; omega
  have hW : putRow enc (Sort.ahead w q) g 0 d = sortWorld enc w g 0 q d #[] := by simp [sortWorld]
  rw [hW]
  have hgg := heap_sortWorld_own (w := w) (enc := enc) (gb := g) (m := q) (dk := d) (os := #[]) hg
  refine ⟨rfl, ⟨by rw [toIs_length], by unfold maxLen at hcl; omega, fun k hk => ⟨g, 0, rfl, heap_lt hgg, ?_⟩⟩, ⟨_, _, hgg⟩, grownBy_sortWorld⟩
  have htk := take_putCells (enc := enc) cur d (by omega)
  have h1 : ((putCells enc 0 d cur).toList.take d.size)[k]? = (d.toList.map enc)[k]? := by rw [htk]
  rw [List.getElem?_take_of_lt (by omega), Array.getElem?_toList] at h1
  have h2 : (d.toList.map enc)[k]? = some (.int .i64 ((E'[k] : Nat) : Int)) := by
    rw [← hd]
    show ((E' ++ List.replicate (E.length - E'.length) 0).map enc)[k]? = _
    rw [List.getElem?_map, List.getElem?_append_left hk, List.getElem?_eq_getElem hk]
    show some (Value.int .i64 ((E'[k] % V : Nat) : Int)) = _
    rw [Nat.mod_eq_of_lt (hfm _ (List.getElem_mem hk))]
  rw [h2] at h1
  rw [Nat.zero_add, toIs_getD]
  simp [World.cell?, hgg, h1, List.getD, hk]
end Go.Proofs.Ytbecmaandhadhaa.pt
namespace Go.Proofs.Ytbecmaandhadhaa.pt
open Go.RowKit
set_option linter.unusedVariables false
set_option maxRecDepth 20000

theorem bx_alloc (w : World) (c : Array Value) (t : TypeId) : (w.alloc (.cells c t)).heap[w.heap.size]? = some (.cells c t (0, 0)) := (MapKept.heap_alloc w _).1
theorem ns_zero (w : World) : Ns (w.alloc (.cells #[.int .i64 0] 3)) (some ⟨w.heap.size, 0, none⟩) 1 (toIs [0]) := by
  refine ⟨rfl, by omega, fun k hk => ⟨w.heap.size, 0, rfl, by simp, ?_⟩⟩
  obtain rfl : k = 0 := by omega
  simp [toIs]
theorem Ns.belowB {w w' : World} {a : Option Addr} {n B : Nat} {xs : List Int} (h : Ns w a n xs) (hb : Below B w w') (hlt : ∀ g off, a = some ⟨g, off, none⟩ → g < B) : Ns w' a n xs := by
  refine ⟨h.1, h.2.1, fun k hk => ?_⟩
  obtain ⟨g, off, ha, hg, c0⟩ := h.2.2 k hk
  exact ⟨g, off, ha, Nat.lt_of_lt_of_le hg hb.size, by rw [hb.cell (p := ⟨g, off + k, none⟩) (hlt g off ha)]; exact c0⟩
theorem hang0 : hangK [] (-1) false [0] = [(false, 0, -1)] := rfl
/-- kids with the nodes that they become -/
theorem seqN_succ {V : Nat} {es : List (Nat × Nat)} {L : List (List Nat)} {k : Nat} {nc : Bool} {na : Nat} {np : Int} (h : (seqN V es L k).getD k (false, 0, 0) = (nc, na, np)) : seqN V es L (k + 1) = hangK (seqN V es L k) (k : Int) (!nc) (kids V es L (nc, na, np)) := by
  show hangK (seqN V es L k) (k : Int) (!((seqN V es L k).getD k (false, 0, 0)).1) (kids V es L ((seqN V es L k).getD k (false, 0, 0))) = _
  rw [h]
theorem hang_bd {V m : Nat} {N : List Nd} (h : InvN V m N) (hb : V + m ≤ 1000) (p : Int) {c : Bool} {l : List Nat} (hl : ∀ x ∈ l, (c = true → x < V) ∧ (c = false → x < m)) (t : Nat) : (hangK N p c (l.take t)).length ≤ 1000 :=
  Nat.le_trans (h.hang p fun x hx => hl x (List.mem_of_mem_take hx)).len hb

set_option maxHeartbeats 4000000 in
theorem tree_none (w : World) (V : Nat) (a : Option Addr) (n cap : Nat) (hB : ∀ u : World, Below w.heap.size w u → Calls Try.prog 9 #[.agg #[.int .i64 V, .slice a n cap]] u fun e w' => (∃ pa pc, e = .returned (.slice pa 0 pc)) ∧ Below u.heap.size u w') :
    Calls Try.prog 11 #[.agg #[.int .i64 V, .slice a n cap]] w fun e w' => e = .returned (.slice none 0 0) ∧ Below w.heap.size w w' := by
  have HB0 := hide (Bg.start w (.int .i64 (V : Int)) (.slice a n cap))
  have C9 := hide (hB _ (unhide HB0).bel)
  clear hB
  go_enter Try.func11, Try.ntmps11
  go_wp2_with fail
  refine (unhide C9).mono ?_
  rintro e w2 ⟨⟨pa, pc, rfl⟩, hb2⟩
  have HB2 := hide ((unhide HB0).step hb2)
  clear hb2 HB0 C9
  go_wp2_with fail
  go_ret
  exact ⟨rfl, (unhide HB2).bel⟩

set_option maxHeartbeats 16000000 in
theorem tree_some0 (w : World) (V : Nat) (a : Option Addr) (n cap : Nat) (es : List (Nat × Nat)) (h : Es 0 w a n (toI es)) (hne : es.length = n) (hno : a = none → n = 0 ∧ cap = 0) (hp : Plain V es) (hnl : Df.NoLoop es) (L : List (List Nat)) (hL : IsBl es L) (hLn : 0 < L.length)
    (S : Nat → List Nd) (hS0 : S 0 = [(false, 0, -1)]) (hSs : ∀ k nc na np, (S k).getD k (false, 0, 0) = (nc, na, np) → S (k + 1) = hangK (S k) (k : Int) (!nc) (kids V es L (nc, na, np))) (hInv : ∀ k, InvN V L.length (S k)) :
    Calls Try.prog 11 #[.agg #[.int .i64 V, .slice a n cap]] w fun e w' => (∃ k na ncap, ((S k).length = k ∧ ∀ j, j < k → j < (S j).length) ∧ e = .returned (.slice na k ncap) ∧ Rn3 w' na k (S k)) ∧ Below w.heap.size w w' := by
  have hv64 := hp.v64
  have hv1 := hp.v1
  have hn128 : n ≤ 128 := by rw [← hne]; exact hp.n128
  obtain ⟨nL, hnL⟩ : ∃ nL, L.length = nL := ⟨_, rfl⟩
  have hnLn : nL ≤ n := by rw [← hnL, ← hne]; exact hL.len
  have hea := hL.each (by rw [hne]; omega)
  have hL0 : 0 < nL := by omega
  have C9 := hide (fun (u : World) (hu : Below w.heap.size w u) => blocks_good u V a cap es (B := 0) (by rw [hne]; exact h.below hu) (by rw [hne]; exact hno) hp hnl L hL)
  have C28 := hide (fun (u : World) (hu : Below w.heap.size w u) (pa : Option Addr) (pc : Nat) (hR : Rs u pa L.length fun k => L.getD k []) => places_any u V a cap es (B0 := 0) (by rw [hne]; exact h.below hu) hp pa pc L hR hea hLn (by omega))
  have hmb : ∀ b, b < nL → L.getD b [] ∈ L := fun b hb => by
    have : b < L.length := by omega
    simp [List.getD, this]
  have C34 := hide (fun (u : World) (hu : Below w.heap.size w u) (ba : Option Addr) (bc : Nat) (b : Nat) (hb : b < nL) (hB : Ns u ba (L.getD b []).length (toIs (L.getD b []))) => ends_any u V a cap es (B0 := 0) (by rw [hne]; exact h.below hu) hp ba bc (L.getD b []) hB (hea _ (hmb b hb)).2.2 (hea _ (hmb b hb)).1 (hea _ (hmb b hb)).2.1)
  simp only [hne, hnL] at C9 C28 C34
  have HINV := hide hInv
  simp only [hnL] at HINV
  have HSS := hide hSs
  have HS0 := hide hS0
  clear hInv hSs hS0
  have HLL := hide hnL
  have HB0 := hide (Bg.start w (.int .i64 (V : Int)) (.slice a n cap))
  have t0 : ((nL : Int) == 0) = false := by simp; omega
  clear h hne hno hp hnl hL hea hLn hnL hmb
  go_enter Try.func11, Try.ntmps11
  go_wp2_with fail
  refine (unhide C9 _ (unhide HB0).bel).mono ?_
  rintro e w2 ⟨⟨la, lc, rfl, _, _, AK, CK, hls⟩, hb2⟩
  rw [unhide HLL] at hls ⊢
  have HB2 := hide ((unhide HB0).step hb2)
  have hrs2 := hls w2 (Nat.le_refl _) (fun _ _ _ => rfl)
  have C28' := hide (unhide C28 w2 (unhide HB2).bel la lc hrs2.rs)
  have HLS := hide (fun (W : World) (hW : Below w2.heap.size w2 W) => hls W hW.size (fun i _ hi => hW.block i hi))
  clear hb2 HB0 C9 hls hrs2 C28
  obtain ⟨g0, g1⟩ := (unhide HB2).cells
  go_wp2_with fail
  refine (unhide C28').mono ?_
  rintro e w3 ⟨⟨tg, R, rfl, htr⟩, hb3⟩
  have HB3 := hide ((unhide HB2).step hb3)
  have HTR := hide htr
  have HX3 := hide hb3
  have htg3 := htr.tab.lt
  clear htr hb3 HB2 C28' g0 g1
  go_upto_region 8 with fail
  have hw4 : ∃ w4 : World, w4 = (w3.alloc (.cells #[.slice (some ⟨tg, 0, none⟩) V V] 27)).alloc (.cells #[.slice none 0 0] 31) := ⟨_, rfl⟩
  obtain ⟨w4, hw4⟩ := hw4
  rw [← hw4]
  have hs4 : w4.heap.size = w3.heap.size + 2 := by rw [hw4]; simp
  have hb4 : Below w3.heap.size w3 w4 := by rw [hw4]; exact bto (b_al _) (b_al _)
  have hbat : w4.heap[w3.heap.size]? = some (.cells #[.slice (some ⟨tg, 0, none⟩) V V] 27 (0, 0)) := by
    rw [hw4, (b_al (w := w3.alloc (.cells #[.slice (some ⟨tg, 0, none⟩) V V] 27)) _).block _ (by simp)]
    exact bx_alloc _ _ _
  have hbn : w4.heap[w3.heap.size + 1]? = some (.cells #[.slice none 0 0] 31 (0, 0)) := by
    have := bx_alloc (w3.alloc (.cells #[.slice (some ⟨tg, 0, none⟩) V V] 27)) #[.slice none 0 0] 31
    rw [hw4]
    simpa using this
  have HTA := hide (show Ta w4 w3.heap.size tg V (plK es L nL) from ⟨by simp [World.cell?, hbat], fun x hx => by
    obtain ⟨a', c', h1, _, _⟩ := ns_of_owns ((unhide HTR).rows.own x hx) (by have := plK_len es L nL x; omega)
    exact ⟨a', c', by rw [hb4.cell (p := ⟨tg, x, none⟩) htg3, (unhide HTR).tab.cell hx, h1]⟩⟩)
  have HROW := hide (fun (x : Nat) (hx : x < V) => show ∃ a' c', w4.cell? ⟨tg, x, none⟩ = some (.slice a' (plK es L nL x).length c') ∧ Ns w4 a' (plK es L nL x).length (toIs (plK es L nL x)) ∧ ∀ g off, a' = some ⟨g, off, none⟩ → g < w3.heap.size ∧ ∃ (cur : Array Value) (fz : Nat × Nat), w4.heap[g]? = some (Obj.cells cur 3 fz) from by
    have ho := (unhide HTR).rows.own x hx
    obtain ⟨a', c', h1, _, h2⟩ := ns_of_owns ho (by have := plK_len es L nL x; omega)
    refine ⟨a', c', by rw [hb4.cell (p := ⟨tg, x, none⟩) htg3, (unhide HTR).tab.cell hx, h1], h2.below hb4, fun g off he => ?_⟩
    have hob : (R x).ownBlock = some g := by rw [h1, he]; rfl
    obtain ⟨cur, hcur⟩ := owns_type ho hob
    exact ⟨heap_lt hcur, cur, (0, 0), (hb4.block g (heap_lt hcur)).trans hcur⟩)
  have HB4 := hide ((unhide HB3).step hb4)
  have HX4 := hide (bto (unhide HX3) hb4)
  have h24 : w2.heap.size ≤ w3.heap.size := (unhide HX3).size
  have hw3 : w.heap.size < w3.heap.size := (unhide HB3).lt
  have HN0 := hide (show Hn w4.heap.size (w3.heap.size + 1) (w4.alloc (.cells #[.int .i64 0] 3)) [] (.slice none 0 0) from ⟨by omega, by simp, ((b_al _).block _ (by omega)).trans hbn, World.ownsRow_nil _ _ _ _⟩)
  have C29 := hide (hang_any (w4.alloc (.cells #[.int .i64 0] 3)) (-1) false (some ⟨w4.heap.size, 0, none⟩) 1 1 [0] (ns_zero w4) (fun g off he => by cases he; exact ⟨_, _, bx_alloc _ _ _⟩) _ _ [] _ (unhide HN0)
    (fun t _ => hang_bd (V := V) (m := nL) ⟨by simp, by simp⟩ (by omega) _ (by simp; omega) t) (by omega))
  rw [hang0, hs4] at C29
  have h45 := b_al (w := w4) (.cells #[.int .i64 0] 3)
  have HF4 := hide (Ft.of (gn := w3.heap.size + 1) (by omega) h45)
  clear hw4 hbat hbn hb4 HB3 HX3 HTR HN0 h45
  go_wp2_with fail
  refine (unhide C29).mono ?_
  rintro e w6 ⟨rfl, ⟨nv6, hn6⟩, hf6⟩
  have HN6 := hide (show Hn (w3.heap.size + 2) (w3.heap.size + 1) w6 (S 0) nv6 by rw [unhide HS0]; exact hn6)
  have HF6 := hide ((unhide HF4).trans hf6)
  clear hn6 hf6 HF4 C29
  go_wp2_with fail
  go_loopw [8] (fun v8 wr => ∃ (k : Nat) (nv : Value), v8 = .int .i64 k ∧ Hid (k ≤ (S k).length) ∧ Hid (∀ j, j < k → j < (S j).length) ∧ Hid (Hn (w3.heap.size + 2) (w3.heap.size + 1) wr (S k) nv) ∧ Hid (Ft (w3.heap.size + 1) w4 wr)) (fun v8 wr => V + nL + 1 - (intOf v8).toNat)
  case atStart => exact ⟨0, nv6, rfl, Nat.zero_le _, fun j hj => by omega, HN6, HF6⟩
  case round =>
    clear HN6 HF6
    obtain ⟨k, nv, rfl, HKL, HJ, HN, HF⟩ := hrel
    have hlen := (unhide HINV k).len
    have hkle := unhide HKL
    obtain ⟨na, ncap, hnv, hrn⟩ := rn_of_owns (unhide HN).own
    subst hnv
    obtain ⟨c1, c2, c3⟩ := (unhide HN).cell
    have HINVk := hide (unhide HINV k)
    have HSS' := hide (unhide HSS k)
    have HSK1 := hide (show ∀ X, S (k + 1) = X → InvN V nL X from fun X hX => by rw [← hX]; exact unhide HINV (k + 1))
    obtain ⟨T, hT⟩ : ∃ T, S k = T := ⟨_, rfl⟩
    have HT := hide hT
    rw [hT] at hlen hkle c1 hrn HN HINVk HSS'
    clear hT
    obtain ⟨sl, hsl⟩ : ∃ sl, T.length = sl := ⟨_, rfl⟩
    rw [hsl] at hlen hkle c1 hrn
    have HSL := hide hsl
    clear hsl
    by_cases hkl : k < sl
    · obtain ⟨gr, off, hna, hgr, d0, d1, d2⟩ := hrn.2 k hkl
      subst hna
      obtain ⟨⟨nc, nx, np⟩, hnd⟩ : ∃ x, T.getD k (false, 0, 0) = x := ⟨_, rfl⟩
      have hkT : k < T.length := by rw [unhide HSL]; exact hkl
      have hrg := (unhide HINVk).rg (T.getD k (false, 0, 0)) (by simp [List.getD, hkT])
      rw [hnd] at d0 d1 d2 hrg
      simp only at d0 d1 d2 hrg
      have HSUC := hide (unhide HSS' nc nx np hnd)
      have HKID := hide (kids_rg V es L (nc, nx, np))
      have hlt2 : (k : Int) < (sl : Int) := by omega
      have HJ1 := hide (show ∀ j, j < k + 1 → j < (S j).length from fun j hj => by
        by_cases e : j = k
        · rw [e, unhide HT, unhide HSL]; exact hkl
        · exact unhide HJ j (by omega))
      have HBEL := hide (show Below (w3.heap.size + 1) w4 wr from (unhide HF).bel)
      have hgnr : w3.heap.size + 1 ≤ wr.heap.size := Nat.le_of_lt c3
      clear hnd hrn hkT HSS'
      cases nc with
      | true =>
        have hnx : nx < V := hrg.1 rfl
        have hnx2 : (nx : Int) < (V : Int) := by omega
        obtain ⟨ra, rc, q0, q1, q2⟩ := unhide HROW nx hnx
        have e0 : wr.cell? ⟨tg, nx, none⟩ = some (.slice ra (plK es L nL nx).length rc) := ((unhide HBEL).cell (p := ⟨tg, nx, none⟩) (by show tg < _; omega)).trans q0
        have e1 : wr.cell? ⟨w3.heap.size, 0, none⟩ = some (.slice (some ⟨tg, 0, none⟩) V V) := ((unhide HBEL).cell (p := ⟨w3.heap.size, 0, none⟩) (by show w3.heap.size < _; omega)).trans (unhide HTA).bx
        have hb6 := b_al (w := wr) (.cells #[.bool true, .int .i64 (nx : Int), .int .i64 np] 35)
        have hpl := plK_len es L nL nx
        have C29 := hide (hang_any (wr.alloc (.cells #[.bool true, .int .i64 (nx : Int), .int .i64 np] 35)) (k : Int) false ra (plK es L nL nx).length rc (plK es L nL nx) ((Ns.belowB q1 (unhide HBEL) (fun g off he => by have := (q2 g off he).1; omega)).below hb6)
          (fun g off he => by
            obtain ⟨h1, cur, fz, h2⟩ := q2 g off he
            exact ⟨cur, fz, (hb6.block g (by omega)).trans (((unhide HBEL).block g (by omega)).trans h2)⟩) _ _ T _ ((unhide HN).step hb6)
          (fun t _ => hang_bd (V := V) (m := nL) (unhide HINVk) (by omega) _ (fun x hx => by have := unhide HKID x (by simpa [kids, unhide HLL] using hx); simpa [unhide HLL] using this) t) (by omega))
        have HSK := hide (show S (k + 1) = hangK T (k : Int) false (plK es L nL nx) by
          have := unhide HSUC
          rw [this]
          simp [kids, unhide HLL])
        have HF6 := hide ((unhide HF).trans (Ft.of hgnr hb6))
        have htgr : tg < wr.heap.size := by omega
        have hatr : w3.heap.size < wr.heap.size := by omega
        generalize (plK es L nL nx).length = pl at *
        clear q0 q1 q2 hb6 HSUC HKID HF
        go_wp2_with fail
        refine (unhide C29).mono ?_
        rintro e w7 ⟨rfl, ⟨nv7, hn7⟩, hf7⟩
        have HN7 := hide (show Hn (w3.heap.size + 2) (w3.heap.size + 1) w7 (S (k + 1)) nv7 by rw [unhide HSK]; exact hn7)
        have HF7 := hide ((unhide HF6).trans hf7)
        have HKL1 := hide (show k + 1 ≤ (S (k + 1)).length by rw [unhide HSK]; exact Nat.le_trans (by rw [unhide HSL]; omega) (hangK_le _ _ _ _))
        clear hn7 hf7 HF6 C29 e0 e1 d0 d1 d2 c1 c2 c3
        go_wp2_with fail
        go_roundw
        case rel => exact ⟨k + 1, nv7, by go_num, HKL1, HJ1, HN7, HF7⟩
        case measure => simp [intOf]; omega
      | false =>
        have hnx : nx < nL := hrg.2 rfl
        have hnx2 : (nx : Int) < (nL : Int) := by omega
        obtain ⟨gl, ol, hla, hgl, q0, _, _, _⟩ := unhide HLS w2 (Below.refl _ _) nx hnx
        subst hla
        have hBW : ∀ W : World, Below (w3.heap.size + 1) w4 W → Below w2.heap.size w2 W ∧ Below w.heap.size w W := fun W hW => ⟨(unhide HX4).trans (hW.mono (by omega)), (unhide HB4).bel.trans (hW.mono (by omega))⟩
        have HSC := hide (fun (W : World) (hW : Below (w3.heap.size + 1) w4 W) => show W.cell? ⟨w.heap.size, 0, none⟩ = some (.int .i64 (V : Int)) ∧ W.cell? ⟨w.heap.size, 1, none⟩ = some (.slice a n cap) ∧ W.cell? ⟨gl, ol + nx, none⟩ = some (.slice (AK nx) (L.getD nx []).length (CK nx)) from
          ⟨(hW.cell (p := ⟨w.heap.size, 0, none⟩) (by show w.heap.size < _; omega)).trans (unhide HB4).cells.1, (hW.cell (p := ⟨w.heap.size, 1, none⟩) (by show w.heap.size < _; omega)).trans (unhide HB4).cells.2, ((hBW W hW).1.cell (p := ⟨gl, ol + nx, none⟩) hgl).trans q0⟩)
        have HNB := hide (fun (W : World) (hW : Below (w3.heap.size + 1) w4 W) => show Ns W (AK nx) (L.getD nx []).length (toIs (L.getD nx [])) from by
          obtain ⟨_, _, _, _, _, _, _, h6⟩ := unhide HLS W (hBW W hW).1 nx hnx
          exact h6)
        have HC34 := hide (fun (W : World) (hW : Below (w3.heap.size + 1) w4 W) => unhide C34 W (hBW W hW).2 (AK nx) (CK nx) nx hnx (unhide HNB W hW))
        have hb6 := b_al (w := wr) (.cells #[.bool false, .int .i64 (nx : Int), .int .i64 np] 35)
        have HN6 := hide ((unhide HN).step hb6)
        have HF6 := hide ((unhide HF).trans (Ft.of hgnr hb6))
        have hnb1 : (wr.alloc (.cells #[.bool false, .int .i64 (nx : Int), .int .i64 np] 35)).cell? ⟨wr.heap.size, 1, none⟩ = some (.int .i64 (nx : Int)) := by simp
        have HSK := hide (show S (k + 1) = hangK T (k : Int) true ((endsOf V es (L.getD nx [])).filter fun x => decide (1 < (plK es L nL x).length)) by
          have := unhide HSUC
          rw [this]
          have h2 := kids_ends V es L nx
          rw [unhide HLL] at h2
          rw [h2]
          rfl)
        have hKr : ∀ x ∈ (endsOf V es (L.getD nx [])).filter (fun x => decide (1 < (plK es L nL x).length)), ((true : Bool) = true → x < V) ∧ ((true : Bool) = false → x < nL) := fun x hx => ⟨fun _ => (mem_endsOf.1 (List.mem_filter.1 hx).1).1, fun h => by cases h⟩
        have hEV : ∀ x ∈ endsOf V es (L.getD nx []), x < V := fun x hx => (mem_endsOf.1 hx).1
        have hEl := endsOf_len V es (L.getD nx [])
        have hs6 : (wr.alloc (.cells #[.bool false, .int .i64 (nx : Int), .int .i64 np] 35)).heap.size = wr.heap.size + 1 := by simp
        go_upto_region 15 with fail
        generalize wr.alloc (.cells #[.bool false, .int .i64 (nx : Int), .int .i64 np] 35) = wa at HN6 HF6 hnb1 hs6 ⊢
        have hFd := (unhide HF6).trans (Ft.of (gn := w3.heap.size + 1) (by omega) (b_dr (w := wa)))
        have HFD := hide hFd
        have HND := hide ((unhide HN6).step b_dr)
        have hnbd : wa.drew.cell? ⟨wr.heap.size, 1, none⟩ = some (.int .i64 (nx : Int)) := hnb1
        have hsd : w3.heap.size + 1 ≤ wa.drew.heap.size := by show _ ≤ wa.heap.size; omega
        have hs0 := unhide HSC _ (unhide HF6).bel
        generalize wr.heap.size = gq at hnb1 hnbd ⊢
        refine wp_region_held_drew (S := fun u => u.cell? ⟨w.heap.size, 0, none⟩ = some (.int .i64 (V : Int)) ∧ u.cell? ⟨w.heap.size, 1, none⟩ = some (.slice a n cap) ∧ u.cell? ⟨gl, ol + nx, none⟩ = some (.slice (AK nx) (L.getD nx []).length (CK nx))) (by kernel_rfl) hs0 (fun hS => ?_)
        generalize wa.drew = wd at HFD HND hnbd hsd hS ⊢
        clear HF6 HN6 hnb1 hs0 hFd q0 d0 d1 d2 c1 c2 c3 hb6 hs6 HN HF HSUC HKID hBW
        refine wpAnyH_take (i := 0) (v := ?_) rfl (by kernel_rfl) (by kernel_rfl) (by kernel_rfl) (fun _ _ _ h => h) (Or.inl ⟨by rfl, ?_⟩) hS ?_
        rotate_left
        · intro u hu; (try dsimp only at hu); go_simp; try with_reducible rfl
        simp only [Act.put, List.getElem_toArray, List.getElem_cons_zero, List.setIfInBounds_toArray, List.set_cons_zero, List.set_cons_succ]
        refine wpAnyH_take (i := 1) (v := ?_) rfl (by kernel_rfl) (by kernel_rfl) (by kernel_rfl) (fun _ _ _ h => h) (Or.inl ⟨by rfl, ?_⟩) hS ?_
        rotate_left
        · intro u hu; (try dsimp only at hu); go_simp; try with_reducible rfl
        simp only [Act.put, List.getElem_toArray, List.getElem_cons_zero, List.getElem_cons_succ, List.setIfInBounds_toArray, List.set_cons_zero, List.set_cons_succ]
        refine wpAnyH_take (i := 2) (v := ?_) rfl (by kernel_rfl) (by kernel_rfl) (by kernel_rfl) (fun _ _ _ h => h) (Or.inl ⟨by rfl, ?_⟩) hS ?_
        rotate_left
        · intro u hu; (try dsimp only at hu); go_simp; try with_reducible rfl
        simp only [Act.put, List.getElem_toArray, List.getElem_cons_zero, List.getElem_cons_succ, List.setIfInBounds_toArray, List.set_cons_zero, List.set_cons_succ]
        refine wpAnyH_take (i := 3) (v := ?_) rfl (by kernel_rfl) (by kernel_rfl) (by kernel_rfl) (fun _ _ _ h => h) (Or.inl ⟨by rfl, ?_⟩) hS ?_
        rotate_left
        · intro u hu; (try dsimp only at hu); go_simp; try with_reducible rfl
        simp only [Act.put, List.getElem_toArray, List.getElem_cons_zero, List.getElem_cons_succ, List.setIfInBounds_toArray, List.set_cons_zero, List.set_cons_succ]
        refine wpAnyH_take (i := 4) (v := ?_) rfl (by kernel_rfl) (by kernel_rfl) (by kernel_rfl) (fun _ _ _ h => h) (Or.inl ⟨by rfl, ?_⟩) hS ?_
        rotate_left
        · intro u hu; (try dsimp only at hu); go_simp; try with_reducible rfl
        simp only [Act.put, List.getElem_toArray, List.getElem_cons_zero, List.getElem_cons_succ, List.setIfInBounds_toArray, List.set_cons_zero, List.set_cons_succ]
        refine wpAnyH_take (i := 9) (v := ?_) rfl (by kernel_rfl) (by kernel_rfl) (by kernel_rfl) (fun _ _ _ h => h) (Or.inl ⟨by rfl, ?_⟩) hS ?_
        rotate_left
        · intro u hu; (try dsimp only at hu); go_simp; try with_reducible rfl
        simp only [Act.put, List.getElem_toArray, List.getElem_cons_zero, List.getElem_cons_succ, List.setIfInBounds_toArray, List.set_cons_zero, List.set_cons_succ]
        refine wpAnyH_ready (rs := [5]) (by kernel_rfl) (by simp) ?_
        refine AllReadyH.cons rfl (fun K hK => ?_) AllReadyH.nil
        go_simp
        refine hK.out _ _ hS (fun hS2 => ?_)
        clear hK K hS2
        refine wpAnyH_take (i := 6) (v := ?_) rfl (by kernel_rfl) (by kernel_rfl) (by kernel_rfl) (fun _ _ _ h => h) (Or.inl ⟨by rfl, ?_⟩) hS ?_
        rotate_left
        · intro u hu; (try dsimp only at hu); go_simp; try with_reducible rfl
        simp only [Act.put, List.getElem_toArray, List.getElem_cons_zero, List.getElem_cons_succ, List.setIfInBounds_toArray, List.set_cons_zero, List.set_cons_succ]
        refine wpAnyH_take (i := 7) (v := ?_) rfl (by kernel_rfl) (by kernel_rfl) (by kernel_rfl) (fun _ _ _ h => h) (Or.inl ⟨by rfl, ?_⟩) hS ?_
        rotate_left
        · intro u hu; (try dsimp only at hu); go_simp; try with_reducible rfl
        simp only [Act.put, List.getElem_toArray, List.getElem_cons_zero, List.getElem_cons_succ, List.setIfInBounds_toArray, List.set_cons_zero, List.set_cons_succ]
        refine wpAnyH_ready (rs := [8]) (by kernel_rfl) (by simp) ?_
        refine AllReadyH.cons rfl (fun K hK => ?_) AllReadyH.nil
        go_simp
        refine (unhide HC34 wd (unhide HFD).bel).mono ?_
        rintro e we ⟨⟨ge, gec, rfl, hoe⟩, hbe⟩
        have HFE := hide ((unhide HFD).trans (Ft.of hsd hbe))
        have HNE := hide ((unhide HND).step hbe)
        have hge := (hoe.lt ge rfl).1
        have hsd2 := (unhide HND).sz
        have HTE := hide ((unhide HTA).keep (W' := we) ((unhide HFE).bel.block _ (by omega)) ((unhide HFE).bel.block _ (by omega)))
        have hse := hbe.size
        have HTY := hide (owns_type hoe rfl)
        have C33 := hide (del_any we _ ge gec (endsOf V es (L.getD nx [])) V (by omega) hEV (by omega) hoe w3.heap.size tg (plK es L nL) (unhide HTE) (fun x hx => by have := plK_len es L nL x; omega) (by omega) (by omega) (by omega) (by omega))
        refine hK.out _ _ (unhide HSC _ (unhide HFE).bel) (fun hS2 => ?_)
        clear hK K hS hoe hbe HFD HND hnbd HC34 HTE
        have hS := hS2
        clear hS2
        refine wpAnyH_ready (rs := [10]) (by kernel_rfl) (by simp) ?_
        refine AllReadyH.cons rfl (fun K hK => ?_) AllReadyH.nil
        go_simp
        refine (unhide C33).mono ?_
        rintro e wf ⟨rfl, hns, h3f, hgf⟩
        have hbf : Below (w3.heap.size + 1) we wf := (Below.refl _ _).grown hgf (by omega) fun b hb => by cases hb; omega
        have HNF := hide (show Hn (w3.heap.size + 2) (w3.heap.size + 1) wf T _ from ⟨(unhide HNE).lt, Nat.le_trans (unhide HNE).sz hgf.size, (hgf.block _ (unhide HNE).cell.2.2 (fun e => by cases e; omega)).trans (unhide HNE).bx, owns_keep (unhide HNE).own fun g hg => hgf.block g ((unhide HNE).own.lt g hg).2 fun e => by
          cases e
          obtain ⟨cu1, h1⟩ := owns_type (unhide HNE).own hg
          obtain ⟨cu2, h2⟩ := unhide HTY
          rw [h1] at h2
          simp at h2⟩)
        have HFF := hide (show Ft (w3.heap.size + 1) w4 wf from ⟨(unhide HFE).bel.trans hbf, fun b cur fz hb => by
          rw [← (unhide HFE).t3 b cur fz hb]
          have hbw : b < w4.heap.size := heap_lt hb
          have := (unhide HFE).bel.size
          exact hgf.block b (by omega) (fun e => by cases e; omega)⟩)
        have hfl := filter_le (fun x => decide (1 < (plK es L nL x).length)) (endsOf V es (L.getD nx []))
        have C29 := hide (hang_any wf (k : Int) true (some ⟨ge, 0, none⟩) _ gec _ hns (fun g off he => by cases he; exact h3f) _ _ T _ (unhide HNF) (fun t _ => hang_bd (V := V) (m := nL) (unhide HINVk) (by omega) _ hKr t) (by omega))
        rw [← unhide HSK] at C29
        refine hK.out _ _ (unhide HSC _ (unhide HFF).bel) (fun hS2 => ?_)
        clear hK K hS hns h3f hgf hbf HFE HNE C33 hfl
        have hS := hS2
        clear hS2
        refine wpAnyH_ready (rs := [11]) (by kernel_rfl) (by simp) ?_
        refine AllReadyH.cons rfl (fun K hK => ?_) AllReadyH.nil
        go_simp
        refine (unhide C29).mono ?_
        rintro e wg ⟨rfl, ⟨nv7, hn7⟩, hf7⟩
        have HF7 := hide ((unhide HFF).trans hf7)
        have HN7 := hide hn7
        have HKL1 := hide (show k + 1 ≤ (S (k + 1)).length by rw [unhide HSK]; exact Nat.le_trans (by rw [unhide HSL]; omega) (hangK_le _ _ _ _))
        refine hK.out _ _ (unhide HSC _ (unhide HF7).bel) (fun hS2 => ?_)
        clear hK K hS hS2 hn7 hf7 C29 HNF HFF
        refine wpAnyH_done (by kernel_rfl) ?_ _
        go_wp2_with fail
        go_roundw
        case rel => exact ⟨k + 1, nv7, by go_num, HKL1, HJ1, HN7, HF7⟩
        case measure => simp [intOf]; omega
    · obtain rfl : k = sl := by omega
      have HR := hide (show Rn3 wr na k (S k) by rw [unhide HT]; exact hrn)
      have HE := hide (show (S k).length = k by rw [unhide HT, unhide HSL])
      have HBE := hide (show Below w.heap.size w wr from (unhide HB4).bel.trans ((unhide HF).bel.mono (by omega)))
      clear hrn HSK1 HSS' HF
      go_wp2_with fail
      go_ret
      exact ⟨⟨k, na, ncap, ⟨unhide HE, unhide HJ⟩, rfl, unhide HR⟩, unhide HBE⟩

/-- block.Tree of a graph that has blocks -/
theorem tree_some (w : World) (V : Nat) (a : Option Addr) (n cap : Nat) (es : List (Nat × Nat)) (h : Es 0 w a n (toI es)) (hne : es.length = n) (hno : a = none → n = 0 ∧ cap = 0) (hp : Plain V es) (hnl : Df.NoLoop es) (L : List (List Nat)) (hL : IsBl es L) (hLn : 0 < L.length) :
    Calls Try.prog 11 #[.agg #[.int .i64 V, .slice a n cap]] w fun e w' => (∃ k na ncap, EndN V es L k ∧ e = .returned (.slice na k ncap) ∧ Rn3 w' na k (seqN V es L k)) ∧ Below w.heap.size w w' :=
  tree_some0 w V a n cap es h hne hno hp hnl L hL hLn (seqN V es L) rfl (fun k nc na np h => seqN_succ h) (fun k => seqN_inv hLn k)
end Go.Proofs.Ytbecmaandhadhaa.pt
namespace Go.Proofs.Ytbecmaandhadhaa.pt
open Go.RowKit
set_option linter.unusedVariables false
set_option maxRecDepth 20000

set_option maxHeartbeats 8000000 in
theorem in_cut (u : World) (nx mx : Nat) (np mp : Int) (gb gg : Nat) (V : Int) (a : Option Addr) (n cap : Nat) (nL pc gp op : Nat) (ba : Option Addr) (bn bc : Nat) (r : Bool)
    (h1 : u.cell? ⟨gb, 0, none⟩ = some (.slice (some ⟨gp, op, none⟩) nL pc)) (h2 : u.cell? ⟨gp, op + nx, none⟩ = some (.slice ba bn bc)) (hg0 : u.cell? ⟨gg, 0, none⟩ = some (.int .i64 V)) (hg1 : u.cell? ⟨gg, 1, none⟩ = some (.slice a n cap))
    (b1 : gb < u.heap.size) (b2 : gp < u.heap.size) (b3 : gg < u.heap.size) (hnx : nx < nL) (hnL : nL ≤ 1000)
    (C : ∀ W, Below u.heap.size u W → Calls Try.prog 17 #[.agg #[.int .i64 V, .slice a n cap], .slice ba bn bc, .int .i64 (mx : Int)] W fun e w' => e = .returned (.bool r) ∧ Below W.heap.size W w') :
    Calls Try.prog 16 #[.agg #[.bool false, .int .i64 (nx : Int), .int .i64 np], .agg #[.bool true, .int .i64 (mx : Int), .int .i64 mp], .pointer (some ⟨gb, 0, none⟩), .pointer (some ⟨gg, 0, none⟩)] u fun e w' => e = .returned (.bool r) ∧ Below u.heap.size u w' := by
  have HC := hide C
  have hnx2 : (nx : Int) < (nL : Int) := by omega
  clear C
  go_enter Try.func16, Try.ntmps16
  go_upto_region 5 with fail
  obtain ⟨W0, hW0⟩ : ∃ W0 : World, W0 = (u.alloc (.cells #[.bool true, .int .i64 (mx : Int), .int .i64 mp] 35)).alloc (.cells #[.bool false, .int .i64 (nx : Int), .int .i64 np] 35) := ⟨_, rfl⟩
  rw [← hW0]
  have hb0 : Below u.heap.size u W0 := by rw [hW0]; exact bto (b_al _) (b_al _)
  have k1 : W0.heap[u.heap.size]? = some (.cells #[.bool true, .int .i64 (mx : Int), .int .i64 mp] 35 (0, 0)) := by
    rw [hW0, (b_al (w := u.alloc (.cells #[.bool true, .int .i64 (mx : Int), .int .i64 mp] 35)) _).block _ (by simp)]
    exact bx_alloc _ _ _
  have k2 : W0.heap[u.heap.size + 1]? = some (.cells #[.bool false, .int .i64 (nx : Int), .int .i64 np] 35 (0, 0)) := by
    have := bx_alloc (u.alloc (.cells #[.bool true, .int .i64 (mx : Int), .int .i64 mp] 35)) #[.bool false, .int .i64 (nx : Int), .int .i64 np] 35
    rw [hW0]
    simpa using this
  have l1 := heap_lt k1
  have l2 := heap_lt k2
  have HBU := hide hb0
  have HS := hide (fun (W : World) (hW : Below W0.heap.size W0 W) => show W.cell? ⟨u.heap.size, 0, none⟩ = some (.bool true) ∧ W.cell? ⟨u.heap.size, 1, none⟩ = some (.int .i64 (mx : Int)) ∧ W.cell? ⟨u.heap.size + 1, 1, none⟩ = some (.int .i64 (nx : Int)) ∧ W.cell? ⟨gb, 0, none⟩ = some (.slice (some ⟨gp, op, none⟩) nL pc) ∧ W.cell? ⟨gp, op + nx, none⟩ = some (.slice ba bn bc) ∧ W.cell? ⟨gg, 0, none⟩ = some (.int .i64 V) ∧ W.cell? ⟨gg, 1, none⟩ = some (.slice a n cap) ∧ Hid (Below W0.heap.size W0 W) from
    ⟨by rw [hW.cell (p := ⟨u.heap.size, 0, none⟩) l1]; simp [World.cell?, k1], by rw [hW.cell (p := ⟨u.heap.size, 1, none⟩) l1]; simp [World.cell?, k1], by rw [hW.cell (p := ⟨u.heap.size + 1, 1, none⟩) l2]; simp [World.cell?, k2],
      (hW.cell (p := ⟨gb, 0, none⟩) (Nat.lt_of_lt_of_le b1 hb0.size)).trans ((hb0.cell (p := ⟨gb, 0, none⟩) b1).trans h1), (hW.cell (p := ⟨gp, op + nx, none⟩) (Nat.lt_of_lt_of_le b2 hb0.size)).trans ((hb0.cell (p := ⟨gp, op + nx, none⟩) b2).trans h2),
      (hW.cell (p := ⟨gg, 0, none⟩) (Nat.lt_of_lt_of_le b3 hb0.size)).trans ((hb0.cell (p := ⟨gg, 0, none⟩) b3).trans hg0), (hW.cell (p := ⟨gg, 1, none⟩) (Nat.lt_of_lt_of_le b3 hb0.size)).trans ((hb0.cell (p := ⟨gg, 1, none⟩) b3).trans hg1), hW⟩)
  have HCW := hide (fun (W : World) (hW : Below W0.heap.size W0 W) => unhide HC W (bto hb0 hW))
  obtain ⟨q1, hq1⟩ : ∃ q1, u.heap.size + 1 = q1 := ⟨_, rfl⟩
  rw [hq1] at HS ⊢
  have HU := hide (And.intro hb0 rfl : Below u.heap.size u W0 ∧ u.heap.size = u.heap.size)
  generalize hq : u.heap.size = q at HS HBU ⊢
  have hS1 := unhide HS W0 (Below.refl _ _)
  have hS0 := unhide HS W0.drew b_dr
  clear h1 h2 hg0 hg1 b1 b2 b3 hb0 k1 k2 l1 l2 hW0 HC hq1 HU
  go_region_held3 (fun u => u.cell? ⟨q, 0, none⟩ = some (.bool true) ∧ u.cell? ⟨q, 1, none⟩ = some (.int .i64 (mx : Int)) ∧ u.cell? ⟨q1, 1, none⟩ = some (.int .i64 (nx : Int)) ∧ u.cell? ⟨gb, 0, none⟩ = some (.slice (some ⟨gp, op, none⟩) nL pc) ∧ u.cell? ⟨gp, op + nx, none⟩ = some (.slice ba bn bc) ∧ u.cell? ⟨gg, 0, none⟩ = some (.int .i64 V) ∧ u.cell? ⟨gg, 1, none⟩ = some (.slice a n cap) ∧ Hid (Below W0.heap.size W0 u)) (first | exact hS0 | exact hS1 | assumption | exact unhide HS _ (by first | exact bto (unhide hS0.2.2.2.2.2.2.2) hb7 | assumption)) ((go_at_call 17; refine (unhide HCW _ (by first | exact unhide hS0.2.2.2.2.2.2.2 | assumption)).mono ?_; rintro e w7 ⟨rfl, hb7⟩))
  have hBE : Below q u w7 := (unhide HBU).trans ((bto b_dr hb7).mono (by rw [← hq]; exact (unhide HBU).size))
  have HBE := hide hBE
  clear hS0 hS1 hb7 hBE HS HCW
  go_wp2_with fail
  go_ret
  exact ⟨rfl, by rw [hq]; exact unhide HBE⟩
set_option maxHeartbeats 8000000 in
theorem in_blk (u : World) (nx mx : Nat) (np mp : Int) (gb gg : Nat) (V : Int) (a : Option Addr) (n cap : Nat) (nL pc gp op : Nat) (ba : Option Addr) (bn bc : Nat) (r : Bool)
    (h1 : u.cell? ⟨gb, 0, none⟩ = some (.slice (some ⟨gp, op, none⟩) nL pc)) (h2 : u.cell? ⟨gp, op + mx, none⟩ = some (.slice ba bn bc)) (hg0 : u.cell? ⟨gg, 0, none⟩ = some (.int .i64 V)) (hg1 : u.cell? ⟨gg, 1, none⟩ = some (.slice a n cap))
    (b1 : gb < u.heap.size) (b2 : gp < u.heap.size) (b3 : gg < u.heap.size) (hnx : mx < nL) (hnL : nL ≤ 1000)
    (C : ∀ W, Below u.heap.size u W → Calls Try.prog 17 #[.agg #[.int .i64 V, .slice a n cap], .slice ba bn bc, .int .i64 (nx : Int)] W fun e w' => e = .returned (.bool r) ∧ Below W.heap.size W w') :
    Calls Try.prog 16 #[.agg #[.bool true, .int .i64 (nx : Int), .int .i64 np], .agg #[.bool false, .int .i64 (mx : Int), .int .i64 mp], .pointer (some ⟨gb, 0, none⟩), .pointer (some ⟨gg, 0, none⟩)] u fun e w' => e = .returned (.bool r) ∧ Below u.heap.size u w' := by
  have HC := hide C
  have hnx2 : (mx : Int) < (nL : Int) := by omega
  clear C
  go_enter Try.func16, Try.ntmps16
  go_upto_region 5 with fail
  obtain ⟨W0, hW0⟩ : ∃ W0 : World, W0 = (u.alloc (.cells #[.bool true, .int .i64 (nx : Int), .int .i64 np] 35)).alloc (.cells #[.bool false, .int .i64 (mx : Int), .int .i64 mp] 35) := ⟨_, rfl⟩
  rw [← hW0]
  have hb0 : Below u.heap.size u W0 := by rw [hW0]; exact bto (b_al _) (b_al _)
  have k1 : W0.heap[u.heap.size]? = some (.cells #[.bool true, .int .i64 (nx : Int), .int .i64 np] 35 (0, 0)) := by
    rw [hW0, (b_al (w := u.alloc (.cells #[.bool true, .int .i64 (nx : Int), .int .i64 np] 35)) _).block _ (by simp)]
    exact bx_alloc _ _ _
  have k2 : W0.heap[u.heap.size + 1]? = some (.cells #[.bool false, .int .i64 (mx : Int), .int .i64 mp] 35 (0, 0)) := by
    have := bx_alloc (u.alloc (.cells #[.bool true, .int .i64 (nx : Int), .int .i64 np] 35)) #[.bool false, .int .i64 (mx : Int), .int .i64 mp] 35
    rw [hW0]
    simpa using this
  have l1 := heap_lt k1
  have l2 := heap_lt k2
  have HBU := hide hb0
  have HS := hide (fun (W : World) (hW : Below W0.heap.size W0 W) => show W.cell? ⟨u.heap.size, 0, none⟩ = some (.bool true) ∧ W.cell? ⟨u.heap.size, 1, none⟩ = some (.int .i64 (nx : Int)) ∧ W.cell? ⟨u.heap.size + 1, 1, none⟩ = some (.int .i64 (mx : Int)) ∧ W.cell? ⟨gb, 0, none⟩ = some (.slice (some ⟨gp, op, none⟩) nL pc) ∧ W.cell? ⟨gp, op + mx, none⟩ = some (.slice ba bn bc) ∧ W.cell? ⟨gg, 0, none⟩ = some (.int .i64 V) ∧ W.cell? ⟨gg, 1, none⟩ = some (.slice a n cap) ∧ Hid (Below W0.heap.size W0 W) from
    ⟨by rw [hW.cell (p := ⟨u.heap.size, 0, none⟩) l1]; simp [World.cell?, k1], by rw [hW.cell (p := ⟨u.heap.size, 1, none⟩) l1]; simp [World.cell?, k1], by rw [hW.cell (p := ⟨u.heap.size + 1, 1, none⟩) l2]; simp [World.cell?, k2],
      (hW.cell (p := ⟨gb, 0, none⟩) (Nat.lt_of_lt_of_le b1 hb0.size)).trans ((hb0.cell (p := ⟨gb, 0, none⟩) b1).trans h1), (hW.cell (p := ⟨gp, op + mx, none⟩) (Nat.lt_of_lt_of_le b2 hb0.size)).trans ((hb0.cell (p := ⟨gp, op + mx, none⟩) b2).trans h2),
      (hW.cell (p := ⟨gg, 0, none⟩) (Nat.lt_of_lt_of_le b3 hb0.size)).trans ((hb0.cell (p := ⟨gg, 0, none⟩) b3).trans hg0), (hW.cell (p := ⟨gg, 1, none⟩) (Nat.lt_of_lt_of_le b3 hb0.size)).trans ((hb0.cell (p := ⟨gg, 1, none⟩) b3).trans hg1), hW⟩)
  have HCW := hide (fun (W : World) (hW : Below W0.heap.size W0 W) => unhide HC W (bto hb0 hW))
  obtain ⟨q1, hq1⟩ : ∃ q1, u.heap.size + 1 = q1 := ⟨_, rfl⟩
  rw [hq1] at HS ⊢
  have HU := hide (And.intro hb0 rfl : Below u.heap.size u W0 ∧ u.heap.size = u.heap.size)
  generalize hq : u.heap.size = q at HS HBU ⊢
  have hS1 := unhide HS W0 (Below.refl _ _)
  have hS0 := unhide HS W0.drew b_dr
  clear h1 h2 hg0 hg1 b1 b2 b3 hb0 k1 k2 l1 l2 hW0 HC hq1 HU
  go_region_held3 (fun u => u.cell? ⟨q, 0, none⟩ = some (.bool true) ∧ u.cell? ⟨q, 1, none⟩ = some (.int .i64 (nx : Int)) ∧ u.cell? ⟨q1, 1, none⟩ = some (.int .i64 (mx : Int)) ∧ u.cell? ⟨gb, 0, none⟩ = some (.slice (some ⟨gp, op, none⟩) nL pc) ∧ u.cell? ⟨gp, op + mx, none⟩ = some (.slice ba bn bc) ∧ u.cell? ⟨gg, 0, none⟩ = some (.int .i64 V) ∧ u.cell? ⟨gg, 1, none⟩ = some (.slice a n cap) ∧ Hid (Below W0.heap.size W0 u)) (first | exact hS0 | exact hS1 | assumption | exact unhide HS _ (by first | exact bto (unhide hS0.2.2.2.2.2.2.2) hb7 | assumption)) ((go_at_call 17; refine (unhide HCW _ (by first | exact unhide hS0.2.2.2.2.2.2.2 | assumption)).mono ?_; rintro e w7 ⟨rfl, hb7⟩))
  have hBE : Below q u w7 := (unhide HBU).trans ((bto b_dr hb7).mono (by rw [← hq]; exact (unhide HBU).size))
  have HBE := hide hBE
  clear hS0 hS1 hb7 hBE HS HCW
  go_wp2_with fail
  go_ret
  exact ⟨rfl, by rw [hq]; exact unhide HBE⟩
end Go.Proofs.Ytbecmaandhadhaa.pt


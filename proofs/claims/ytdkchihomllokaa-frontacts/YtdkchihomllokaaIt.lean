/-
  Items of a row, and bunches, in memory. No conditions.
-/
import Derived.Test.YtdkchihomllokaaWo
import Derived.Test.YtdkchihomllokaaBx
namespace Go.Proofs.Ytdkchihomllokaa
open Go.RowKit
set_option linter.unusedVariables false
set_option maxRecDepth 20000

/-- a slice of elements of k cells each: what its cells hold -/
def Cr (k : Nat) (w : World) (a : Option Addr) (n : Nat) (cs : List Value) : Prop :=
  cs.length = n * k ∧ n ≤ 140737488355328 ∧ ∀ j, j < n * k → ∃ g off, a = some ⟨g, off, none⟩ ∧ g < w.heap.size ∧ w.cell? ⟨g, off + j, none⟩ = cs[j]?
theorem Cr.below {k : Nat} {w w' : World} {a : Option Addr} {n : Nat} {cs : List Value} (h : Cr k w a n cs) (hb : Below w.heap.size w w') : Cr k w' a n cs := by
  obtain ⟨h1, h2, h3⟩ := h
  refine ⟨h1, h2, fun j hj => ?_⟩
  obtain ⟨g, off, ha, hg, c0⟩ := h3 j hj
  exact ⟨g, off, ha, Nat.lt_of_lt_of_le hg hb.size, by rw [hb.cell (p := ⟨g, off + j, none⟩) hg]; exact c0⟩
theorem Cr.keep {k : Nat} {w w' : World} {a : Option Addr} {n : Nat} {cs : List Value} (h : Cr k w a n cs) (hs : w.heap.size ≤ w'.heap.size) (hk : ∀ g off, a = some ⟨g, off, none⟩ → g < w.heap.size → w'.heap[g]? = w.heap[g]?) : Cr k w' a n cs := by
  obtain ⟨h1, h2, h3⟩ := h
  refine ⟨h1, h2, fun j hj => ?_⟩
  obtain ⟨g, off, ha, hg, c0⟩ := h3 j hj
  exact ⟨g, off, ha, Nat.lt_of_lt_of_le hg hs, by rw [World.cell?_of_block (w := w) (hk g off ha hg)]; exact c0⟩
theorem Cr.nil (k : Nat) (w : World) (a : Option Addr) : Cr k w a 0 [] := ⟨by simp, by omega, fun j hj => by omega⟩
theorem Cr.take {k : Nat} {w : World} {a : Option Addr} {n : Nat} {cs : List Value} (h : Cr k w a n cs) {m : Nat} (hm : m ≤ n) : Cr k w a m (cs.take (m * k)) := by
  obtain ⟨h1, h2, h3⟩ := h
  have hmk : m * k ≤ n * k := Nat.mul_le_mul_right _ hm
  refine ⟨by rw [List.length_take]; omega, by omega, fun j hj => ?_⟩
  obtain ⟨g, off, ha, hg, c0⟩ := h3 j (by omega)
  exact ⟨g, off, ha, hg, by rw [c0, List.getElem?_take_of_lt hj]⟩
theorem Cr.drop {k : Nat} {w : World} {g off : Nat} {n : Nat} {cs : List Value} (h : Cr k w (some ⟨g, off, none⟩) n cs) {m : Nat} (hm : m ≤ n) (a' : Addr) (ha' : m < n → a' = ⟨g, off + m * k, none⟩) : Cr k w (some a') (n - m) (cs.drop (m * k)) := by
  obtain ⟨h1, h2, h3⟩ := h
  have hmk : (n - m) * k = n * k - m * k := Nat.sub_mul _ _ _
  refine ⟨by rw [List.length_drop]; omega, by omega, fun j hj => ?_⟩
  have hmn : m < n := by
    rcases Nat.lt_or_ge m n with h | h
    · exact h
    · rw [show n - m = 0 by omega, Nat.zero_mul] at hj; omega
  obtain ⟨g', off', ha, hg, c0⟩ := h3 (m * k + j) (by omega)
  cases ha
  rw [ha' hmn]
  exact ⟨g, off + m * k, rfl, hg, by rw [List.getElem?_drop, ← c0, Nat.add_assoc]⟩
/-- for append: all its cells -/
theorem Cr.cells {k : Nat} {w : World} {p : Addr} {n : Nat} {cs : List Value} (h : Cr k w (some p) n cs) : ∀ j u, cs[j]? = some u → w.cell? (p.add j) = some u := by
  intro j u hj
  have hjl : j < cs.length := (List.getElem?_eq_some_iff.1 hj).1
  obtain ⟨h1, h2, h3⟩ := h
  obtain ⟨g, off, ha, hg, c0⟩ := h3 j (by omega)
  cases ha
  rw [Addr.add_lit, c0, hj]
theorem cr_of_owns {w : World} {base : Nat} {e : TypeId} {k : Nat} {v : Value} {n : Nat} {cs : List Value} (h : w.ownsRow base e k v n cs) (hn : n ≤ 140737488355328) :
    ∃ a cap, v = .slice a n cap ∧ n ≤ cap ∧ (a = none → n = 0 ∧ cap = 0) ∧ Cr k w a n cs ∧ (∀ g off, a = some ⟨g, off, none⟩ → base ≤ g ∧ off = 0) := by
  rcases h.2 with ⟨hv, h0⟩ | ⟨g, cap, cur, rfl, hb, hg, h1, h2, h3, h4⟩
  · subst h0
    refine ⟨none, 0, hv, by omega, fun _ => ⟨rfl, rfl⟩, ⟨h.1, by omega, fun j hj => by omega⟩, fun g off he => by cases he⟩
  · refine ⟨_, cap, rfl, h1, (fun he => by cases he), ⟨h.1, hn, fun j hj => ⟨g, 0, rfl, (Array.getElem?_eq_some_iff.1 hg).1, ?_⟩⟩, fun g' off he => by cases he; exact ⟨hb, rfl⟩⟩
    rw [Nat.zero_add, h.cellAt j hj]

/-- an item: its edge, its tail, its head -/
abbrev It := Int × Int × Int
def icells (l : List It) : List Value := l.flatMap fun t => [.int .i64 t.1, .int .i64 t.2.1, .int .i64 t.2.2]
theorem icells_cons (t : It) (l : List It) : icells (t :: l) = .int .i64 t.1 :: .int .i64 t.2.1 :: .int .i64 t.2.2 :: icells l := by simp [icells]
theorem icells_append (l m : List It) : icells (l ++ m) = icells l ++ icells m := by simp [icells]
theorem icells_snoc (l : List It) (x y z : Int) : icells l ++ [.int .i64 x, .int .i64 y, .int .i64 z] = icells (l ++ [(x, y, z)]) := by simp [icells]
theorem icells_length (l : List It) : (icells l).length = l.length * 3 := by
  induction l with
  | nil => rfl
  | cons t l ih => rw [icells_cons]; simp only [List.length_cons, ih]; omega
theorem icells_one (l : List It) : ∀ u ∈ icells l, u.oneCell' = true := by
  intro u hu
  simp only [icells, List.mem_flatMap] at hu
  obtain ⟨t, _, ht⟩ := hu
  simp at ht
  rcases ht with rfl | rfl | rfl <;> rfl
theorem icells_at (l : List It) : ∀ k, k < l.length → (icells l)[k * 3]? = some (.int .i64 (l.getD k (0, 0, 0)).1) ∧ (icells l)[k * 3 + 1]? = some (.int .i64 (l.getD k (0, 0, 0)).2.1) ∧ (icells l)[k * 3 + 2]? = some (.int .i64 (l.getD k (0, 0, 0)).2.2) := by
  induction l with
  | nil => intro k hk; simp at hk
  | cons t l ih =>
    intro k hk
    rw [icells_cons]
    cases k with
    | zero => simp
    | succ k =>
      have := ih k (by simpa using hk)
      rw [show (k + 1) * 3 = k * 3 + 1 + 1 + 1 by omega]
      simpa using this
theorem icells_take (l : List It) (m : Nat) : (icells l).take (m * 3) = icells (l.take m) := by
  induction l generalizing m with
  | nil => simp [icells]
  | cons t l ih =>
    cases m with
    | zero => simp [icells]
    | succ m =>
      rw [icells_cons, show (m + 1) * 3 = m * 3 + 1 + 1 + 1 by omega]
      simp only [List.take_succ_cons, ih, icells_cons]
theorem icells_drop (l : List It) (m : Nat) : (icells l).drop (m * 3) = icells (l.drop m) := by
  induction l generalizing m with
  | nil => simp [icells]
  | cons t l ih =>
    cases m with
    | zero => simp
    | succ m =>
      rw [icells_cons, show (m + 1) * 3 = m * 3 + 1 + 1 + 1 by omega]
      simp only [List.drop_succ_cons, ih]
/-- a row in memory -/
def Is (w : World) (a : Option Addr) (l : List It) : Prop := Cr 3 w a l.length (icells l)
theorem Is.below {w w' : World} {a : Option Addr} {l : List It} (h : Is w a l) (hb : Below w.heap.size w w') : Is w' a l := Cr.below h hb
theorem Is.at {w : World} {a : Option Addr} {l : List It} (h : Is w a l) {k : Nat} (hk : k < l.length) :
    ∃ g off, a = some ⟨g, off, none⟩ ∧ g < w.heap.size ∧ w.cell? ⟨g, off + k * 3, none⟩ = some (.int .i64 (l.getD k (0, 0, 0)).1) ∧ w.cell? ⟨g, off + k * 3 + 1, none⟩ = some (.int .i64 (l.getD k (0, 0, 0)).2.1) ∧ w.cell? ⟨g, off + k * 3 + 2, none⟩ = some (.int .i64 (l.getD k (0, 0, 0)).2.2) := by
  obtain ⟨_, _, h3⟩ := h
  obtain ⟨g, off, ha, hg, c0⟩ := h3 (k * 3) (by omega)
  obtain ⟨g1, off1, ha1, _, c1⟩ := h3 (k * 3 + 1) (by omega)
  obtain ⟨g2, off2, ha2, _, c2⟩ := h3 (k * 3 + 2) (by omega)
  subst ha
  cases ha1
  cases ha2
  obtain ⟨e0, e1, e2⟩ := icells_at l k hk
  exact ⟨g, off, rfl, hg, by rw [c0, e0], by rw [Nat.add_assoc, c1, e1], by rw [Nat.add_assoc, c2, e2]⟩

/-- edges to one vertex: its number, how many, from where, up to where -/
structure Bn where
  head : Int
  count : Nat
  lo : Nat
  hi : Nat
def bcells (l : List Bn) : List Value := l.flatMap fun t => [.int .i64 t.head, .int .i64 (t.count : Nat), .int .i64 (t.lo : Nat), .int .i64 (t.hi : Nat)]
theorem bcells_cons (t : Bn) (l : List Bn) : bcells (t :: l) = .int .i64 t.head :: .int .i64 (t.count : Nat) :: .int .i64 (t.lo : Nat) :: .int .i64 (t.hi : Nat) :: bcells l := by simp [bcells]
theorem bcells_append (l m : List Bn) : bcells (l ++ m) = bcells l ++ bcells m := by simp [bcells]
theorem bcells_length (l : List Bn) : (bcells l).length = l.length * 4 := by
  induction l with
  | nil => rfl
  | cons t l ih => rw [bcells_cons]; simp only [List.length_cons, ih]; omega
theorem bcells_one (l : List Bn) : ∀ u ∈ bcells l, u.oneCell' = true := by
  intro u hu
  simp only [bcells, List.mem_flatMap] at hu
  obtain ⟨t, _, ht⟩ := hu
  simp at ht
  rcases ht with rfl | rfl | rfl | rfl <;> rfl
def b0 : Bn := ⟨0, 0, 0, 0⟩
theorem bcells_at (l : List Bn) : ∀ k, k < l.length → (bcells l)[k * 4]? = some (.int .i64 (l.getD k b0).head) ∧ (bcells l)[k * 4 + 1]? = some (.int .i64 ((l.getD k b0).count : Nat)) ∧ (bcells l)[k * 4 + 2]? = some (.int .i64 ((l.getD k b0).lo : Nat)) ∧ (bcells l)[k * 4 + 3]? = some (.int .i64 ((l.getD k b0).hi : Nat)) := by
  induction l with
  | nil => intro k hk; simp at hk
  | cons t l ih =>
    intro k hk
    rw [bcells_cons]
    cases k with
    | zero => simp
    | succ k =>
      have := ih k (by simpa using hk)
      rw [show (k + 1) * 4 = k * 4 + 1 + 1 + 1 + 1 by omega]
      simpa using this
theorem bcells_set1 (l : List Bn) (b : Bn) (c : Nat) : (bcells (l ++ [b])).set (l.length * 4 + 1) (.int .i64 (c : Nat)) = bcells (l ++ [{ b with count := c }]) := by
  rw [bcells_append, bcells_append, List.set_append_right _ _ (by rw [bcells_length]; omega), bcells_length, show l.length * 4 + 1 - l.length * 4 = 1 by omega]
  simp [bcells]
theorem bcells_set3 (l : List Bn) (b : Bn) (c : Nat) : (bcells (l ++ [b])).set (l.length * 4 + 3) (.int .i64 (c : Nat)) = bcells (l ++ [{ b with hi := c }]) := by
  rw [bcells_append, bcells_append, List.set_append_right _ _ (by rw [bcells_length]; omega), bcells_length, show l.length * 4 + 3 - l.length * 4 = 3 by omega]
  simp [bcells]
/-- bunches in memory -/
def Bs (w : World) (a : Option Addr) (l : List Bn) : Prop := Cr 4 w a l.length (bcells l)
theorem Bs.below {w w' : World} {a : Option Addr} {l : List Bn} (h : Bs w a l) (hb : Below w.heap.size w w') : Bs w' a l := Cr.below h hb
theorem Bs.at {w : World} {a : Option Addr} {l : List Bn} (h : Bs w a l) {k : Nat} (hk : k < l.length) :
    ∃ g off, a = some ⟨g, off, none⟩ ∧ g < w.heap.size ∧ w.cell? ⟨g, off + k * 4, none⟩ = some (.int .i64 (l.getD k b0).head) ∧ w.cell? ⟨g, off + k * 4 + 1, none⟩ = some (.int .i64 ((l.getD k b0).count : Nat)) ∧ w.cell? ⟨g, off + k * 4 + 2, none⟩ = some (.int .i64 ((l.getD k b0).lo : Nat)) ∧ w.cell? ⟨g, off + k * 4 + 3, none⟩ = some (.int .i64 ((l.getD k b0).hi : Nat)) := by
  obtain ⟨_, _, h3⟩ := h
  obtain ⟨g, off, ha, hg, c0⟩ := h3 (k * 4) (by omega)
  obtain ⟨g1, off1, ha1, _, c1⟩ := h3 (k * 4 + 1) (by omega)
  obtain ⟨g2, off2, ha2, _, c2⟩ := h3 (k * 4 + 2) (by omega)
  obtain ⟨g3, off3, ha3, _, c3⟩ := h3 (k * 4 + 3) (by omega)
  subst ha
  cases ha1
  cases ha2
  cases ha3
  obtain ⟨e0, e1, e2, e3⟩ := bcells_at l k hk
  exact ⟨g, off, rfl, hg, by rw [c0, e0], by rw [Nat.add_assoc, c1, e1], by rw [Nat.add_assoc, c2, e2], by rw [Nat.add_assoc, c3, e3]⟩

theorem info72 : (Try.prog.info? 72).map (fun i => (i.zero, i.size, i.bytes)) = some (some (.agg #[.int .i64 0, .int .i64 0, .int .i64 0]), 3, 24) := by kernel_rfl
theorem info79 : (Try.prog.info? 79).map (fun i => (i.zero, i.size, i.bytes)) = some (some (.agg #[.int .i64 0, .int .i64 0, .int .i64 0, .int .i64 0]), 4, 32) := by kernel_rfl

/-- what a row's edges are, bunch by bunch: after one item more -/
def bnStep (bs : List Bn) (i : Nat) (t : It) : List Bn :=
  if t.1 = -1 then bs else
  match bs.getLast? with
  | none => bs ++ [⟨t.2.2, 1, i, i + 1⟩]
  | some b => if b.head = t.2.2 then bs.dropLast ++ [⟨b.head, b.count + 1, b.lo, i + 1⟩] else bs ++ [⟨t.2.2, 1, i, i + 1⟩]
def bnK (row : List It) : Nat → List Bn
  | 0 => []
  | k + 1 => bnStep (bnK row k) k (row.getD k (0, 0, 0))
def bnF (row : List It) : List Bn := bnK row row.length
theorem bnStep_len (bs : List Bn) (i : Nat) (t : It) : (bnStep bs i t).length ≤ bs.length + 1 := by
  unfold bnStep
  split
  · omega
  · split
    · simp
    · split
      · simp <;> omega
      · simp
theorem bnK_len (row : List It) : ∀ k, (bnK row k).length ≤ k
  | 0 => by simp [bnK]
  | k + 1 => by
    have := bnK_len row k
    have h2 := bnStep_len (bnK row k) k (row.getD k (0, 0, 0))
    show (bnStep (bnK row k) k (row.getD k (0, 0, 0))).length ≤ k + 1
    omega
end Go.Proofs.Ytdkchihomllokaa


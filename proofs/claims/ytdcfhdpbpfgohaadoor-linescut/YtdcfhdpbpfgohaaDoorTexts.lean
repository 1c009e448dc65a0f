/-
  Texts of graphs, as bytes: what reading makes of them whole, cut, and with more behind them.
-/
import Derived.Test.YtdcfhdpbpfgohaaDoorDec
namespace Go.Proofs.YtdcfhdpbpfgohaaDoor.Pl

/-- a line of two numbers -/
def line2 (e : Nat × Nat) : List UInt8 := row [e.1, e.2] ++ [10]
theorem line2_eq (x y : Nat) : line2 (x, y) = dec x ++ 32 :: (dec y ++ [10]) := by simp [line2, row]
/-- the lines of edges -/
def body : List (Nat × Nat) → List UInt8
  | [] => []
  | e :: es => line2 e ++ body es
theorem body_snoc (es : List (Nat × Nat)) (e : Nat × Nat) : body (es ++ [e]) = body es ++ line2 e := by
  induction es with
  | nil => simp [body]
  | cons a es ih => simp [body, ih]
/-- the text of a graph -/
def text (V : Nat) (es : List (Nat × Nat)) : List UInt8 := line2 (V, es.length) ++ body es

theorem isD10 : isD 10 = false := by decide
theorem pair_line {x y : Nat} (hx : x ≤ 999999) (hy : y ≤ 999999) (r : List UInt8) : pair (line2 (x, y) ++ r) = ((line2 (x, y)).length, some (x, y)) := by
  rw [line2_eq]
  have h1 : num (dec x ++ 32 :: (dec y ++ [10]) ++ r) = some (x, (dec x).length) := by
    rw [List.append_assoc]
    exact num_dec x hx _ (by intro c hc; simp at hc; subst hc; exact isD32)
  have h2 : num ((dec x ++ 32 :: (dec y ++ [10]) ++ r).drop ((dec x).length + 1)) = some (y, (dec y).length) := by
    have : (dec x ++ 32 :: (dec y ++ [10]) ++ r).drop ((dec x).length + 1) = dec y ++ (10 :: r) := by
      rw [← List.drop_drop, List.append_assoc, List.drop_left]
      simp
    rw [this]
    exact num_dec y hy _ (by intro c hc; simp at hc; subst hc; exact isD10)
  have h3 : ((dec x ++ 32 :: (dec y ++ [10]) ++ r).drop (dec x).length).head? = some 32 := by
    rw [List.append_assoc, List.drop_left]; rfl
  have h4 : ((dec x ++ 32 :: (dec y ++ [10]) ++ r).drop ((dec x).length + 1 + (dec y).length)).head? = some 10 := by
    have : (dec x ++ 32 :: (dec y ++ [10]) ++ r).drop ((dec x).length + 1 + (dec y).length) = 10 :: r := by
      rw [Nat.add_assoc, ← List.drop_drop, List.append_assoc, List.drop_left, Nat.add_comm 1]
      simp
    rw [this]; rfl
  unfold pair
  simp only [h1, h3, h2, h4, if_true]
  simp
  omega

theorem edges_body (es : List (Nat × Nat)) (hs : ∀ e ∈ es, e.1 ≤ 999999 ∧ e.2 ≤ 999999) (r : List UInt8) : edges (body es ++ r) es.length = ((body es).length, some es) := by
  induction es with
  | nil => rfl
  | cons e es ih =>
    obtain ⟨x, y⟩ := e
    have he := hs (x, y) (by simp)
    have hp := pair_line he.1 he.2 (body es ++ r)
    rw [← List.append_assoc] at hp
    rw [List.length_cons, show body ((x, y) :: es) = line2 (x, y) ++ body es from rfl, edges_go hp, List.append_assoc, List.drop_left, ih (fun e h => hs e (by simp [h]))]
    simp

theorem graph_more (V : Nat) (es : List (Nat × Nat)) (hV : V ≤ 999999) (hl : es.length ≤ 999999) (hs : ∀ e ∈ es, e.1 ≤ 999999 ∧ e.2 ≤ 999999) (r : List UInt8) :
    graph (text V es ++ r) = ((text V es).length, if r = [] then some (V, es) else none) := by
  have hp := pair_line hV hl (body es ++ r)
  rw [← List.append_assoc] at hp
  have he := edges_body es hs r
  unfold graph text
  rw [hp]
  simp only
  rw [List.append_assoc, List.drop_left, he]
  simp
theorem graph_text (V : Nat) (es : List (Nat × Nat)) (hV : V ≤ 999999) (hl : es.length ≤ 999999) (hs : ∀ e ∈ es, e.1 ≤ 999999 ∧ e.2 ≤ 999999) :
    graph (text V es) = ((text V es).length, some (V, es)) := by
  have := graph_more V es hV hl hs []
  simpa using this

theorem more_take (l : List UInt8) : ∀ n v k, more l n = (v, l.length) → k ≤ l.length → (more (l.take k) n).2 = k := by
  induction l with
  | nil => intro n v k _ hk; simp at hk; subst hk; rfl
  | cons c cs ih =>
    intro n v k h hk
    cases k with
    | zero => rfl
    | succ k =>
      simp only [List.take_succ_cons, more] at *
      split at h
      · rename_i hc
        rw [if_pos hc]
        simp only [Prod.mk.injEq, List.length_cons, Nat.add_right_cancel_iff] at h
        simp only [Nat.add_right_cancel_iff]
        exact ih _ v k (by rw [← h.1]; exact Prod.ext rfl h.2) (by simpa using hk)
      · simp at h
theorem num_take {l : List UInt8} {v k : Nat} (h : num l = some (v, l.length)) (h0 : 0 < k) (hk : k ≤ l.length) : ∃ v', num (l.take k) = some (v', k) := by
  cases l with
  | nil => simp at hk; omega
  | cons c cs =>
    cases k with
    | zero => omega
    | succ k =>
      simp only [num, List.take_succ_cons] at *
      split at h
      · rename_i hc
        rw [if_pos hc]
        simp only [Option.some.injEq, Prod.mk.injEq, List.length_cons, Nat.add_right_cancel_iff] at h
        refine ⟨_, by rw [more_take cs (dv c) v k (by rw [← h.1]; exact Prod.ext rfl h.2) (by simpa using hk)]⟩
      · simp at h
theorem num_dec' {n : Nat} (hn : n ≤ 999999) : num (dec n) = some (n, (dec n).length) := by
  have := num_dec n hn [] (by simp)
  simpa using this

theorem pair_cut {x y : Nat} (hx : x ≤ 999999) (hy : y ≤ 999999) {k : Nat} (hk : k < (line2 (x, y)).length) : pair ((line2 (x, y)).take k) = (k, none) := by
  have hlx := dec_len hx
  have hly := dec_len hy
  rw [line2_eq] at hk ⊢
  simp at hk
  by_cases h0 : k = 0
  · subst h0; rfl
  by_cases h1 : k ≤ (dec x).length
  · obtain ⟨v', h⟩ := num_take (num_dec' hx) (by omega) h1
    rw [List.take_append_of_le_length h1]
    unfold pair
    simp only [h]
    rw [if_neg (by simp)]
  · obtain ⟨j, rfl⟩ : ∃ j, k = (dec x).length + (j + 1) := ⟨k - (dec x).length - 1, by omega⟩
    rw [List.take_length_add_append, List.take_succ_cons, List.take_append_of_le_length (by omega)]
    have a1 : num (dec x ++ 32 :: (dec y).take j) = some (x, (dec x).length) := num_dec x hx _ (by intro c hc; simp at hc; subst hc; exact isD32)
    have a2 : (dec x ++ 32 :: (dec y).take j).drop ((dec x).length + 1) = (dec y).take j := by
      rw [← List.drop_drop, List.drop_left]; rfl
    unfold pair
    simp only [a1, a2]
    rw [if_pos (by rw [List.drop_left]; rfl)]
    by_cases hj : j = 0
    · subst hj
      simp [num]
    · obtain ⟨v', h⟩ := num_take (num_dec' hy) (by omega) (by omega : j ≤ (dec y).length)
      rw [h]
      simp only
      rw [if_neg (by rw [← List.drop_drop, a2]; simp)]
      congr 1
      omega

theorem edges_cut (es : List (Nat × Nat)) : ∀ k, (∀ e ∈ es, e.1 ≤ 999999 ∧ e.2 ≤ 999999) → k < (body es).length → edges ((body es).take k) es.length = (k, none) := by
  induction es with
  | nil => intro k _ h; simp [body] at h
  | cons e es ih =>
    intro k hs hk
    obtain ⟨x, y⟩ := e
    have he := hs (x, y) (by simp)
    rw [show body ((x, y) :: es) = line2 (x, y) ++ body es from rfl] at hk ⊢
    rw [List.length_append] at hk
    by_cases h : k < (line2 (x, y)).length
    · rw [List.take_append_of_le_length (by omega), List.length_cons, edges_no (pair_cut he.1 he.2 h)]
    · obtain ⟨j, rfl⟩ : ∃ j, k = (line2 (x, y)).length + j := ⟨k - (line2 (x, y)).length, by omega⟩
      rw [List.take_length_add_append, List.length_cons, edges_go (pair_line he.1 he.2 _), List.drop_left, ih j (fun e h => hs e (by simp [h])) (by omega)]
      rfl

theorem graph_cut (V : Nat) (es : List (Nat × Nat)) (hV : V ≤ 999999) (hl : es.length ≤ 999999) (hs : ∀ e ∈ es, e.1 ≤ 999999 ∧ e.2 ≤ 999999) {k : Nat} (hk : k < (text V es).length) :
    graph ((text V es).take k) = (k, none) := by
  unfold text at hk ⊢
  rw [List.length_append] at hk
  unfold graph
  by_cases h : k < (line2 (V, es.length)).length
  · rw [List.take_append_of_le_length (by omega), pair_cut hV hl h]
  · obtain ⟨j, rfl⟩ : ∃ j, k = (line2 (V, es.length)).length + j := ⟨k - (line2 (V, es.length)).length, by omega⟩
    rw [List.take_length_add_append, pair_line hV hl]
    simp only
    rw [List.drop_left, edges_cut es j hs (by omega)]

theorem line2_len {e : Nat × Nat} (h : e.1 ≤ 999999 ∧ e.2 ≤ 999999) : (line2 e).length ≤ 15 := by
  obtain ⟨x, y⟩ := e
  rw [line2_eq]
  have h1 := (dec_len h.1).1
  have h2 := (dec_len h.2).1
  simp at h1 h2 ⊢
  omega
theorem body_len (es : List (Nat × Nat)) (hs : ∀ e ∈ es, e.1 ≤ 999999 ∧ e.2 ≤ 999999) : (body es).length ≤ es.length * 15 := by
  induction es with
  | nil => simp [body]
  | cons e es ih =>
    have h1 := line2_len (hs e (by simp))
    have h2 := ih (fun e h => hs e (by simp [h]))
    simp [body]
    omega
theorem text_len (V : Nat) (es : List (Nat × Nat)) (hV : V ≤ 999999) (hl : es.length ≤ 999999) (hs : ∀ e ∈ es, e.1 ≤ 999999 ∧ e.2 ≤ 999999) : (text V es).length ≤ 15 + es.length * 15 := by
  have h1 := line2_len (e := (V, es.length)) ⟨hV, hl⟩
  have h2 := body_len es hs
  unfold text
  rw [List.length_append]
  omega
end Go.Proofs.YtdcfhdpbpfgohaaDoor.Pl

/-
  Plain mathematics: the document's own reading, byte by byte, against lines that are read one by one.
-/
import Derived.Test.YtdcfhdpbpfgohaaScan
namespace Go.Proofs.Ytdcfhdpbpfgohaa.Pl

/-- all lines are told -/
def full (nums : List Nat) : Bool := decide (2 ≤ nums.length ∧ nums.length % 2 = 0 ∧ (nums.length - 2) / 2 = nums.getD 1 0)
/-- what ends a number -/
def want (nums : List Nat) : UInt8 := if nums.length % 2 = 1 then 10 else 32
/-- a digit that may not come -/
def over (n d : Nat) (c : UInt8) : Bool := decide ((n = 0 ∧ d = 1) ∨ 999999 < 10 * n + dv c)

/-- byte by byte: where it goes wrong, or what has been read at the end, and whether a number is open -/
def run : List UInt8 → Nat → List Nat → Bool → Nat → Nat → Sum Nat (List Nat × Bool)
  | [], _, nums, op, _, _ => .inr (nums, op)
  | c :: cs, i, nums, op, n, d =>
    if full nums = true ∧ op = false then .inl i
    else if isD c then
      if op = true ∧ over n d c = true then .inl i
      else run cs (i + 1) nums true (if op then 10 * n + dv c else dv c) (if op then d + 1 else 1)
    else if op = true ∧ c = want nums then run cs (i + 1) (nums ++ [n]) false n d
    else .inl i

/-- the outcome: where the fault is, or the numbers; L: the text's length -/
def fin (L : Nat) : Sum Nat (List Nat × Bool) → Sum Nat (List Nat)
  | .inl p => .inl p
  | .inr (nums, op) => if op = true ∨ full nums = false then .inl L else .inr nums

theorem run_closed {l : List UInt8} {i : Nat} {nums : List Nat} {n d : Nat} (h : ∀ c, l.head? = some c → isD c = true → over n d c = true) :
    (l.head? = some (want nums) → run l i nums true n d = run (l.drop 1) (i + 1) (nums ++ [n]) false n d) ∧
    (¬ l.head? = some (want nums) → ∀ L, L = i + l.length → fin L (run l i nums true n d) = .inl i) := by
  have hw : isD (want nums) = false := by unfold want; split <;> decide
  cases l with
  | nil => exact ⟨fun h => (by cases h), fun _ L hL => (by simp at hL; subst hL; simp [run, fin])⟩
  | cons c cs =>
    refine ⟨fun he => ?_, fun hne L hL => ?_⟩
    · simp at he
      subst he
      simp [run, hw]
    · by_cases hd : isD c = true
      · have := h c rfl hd
        simp [run, hd, this, fin]
      · have hc : ¬ c = want nums := by simpa using hne
        simp [run, hd, hc, fin]

theorem more_run (l : List UInt8) : ∀ (n d i : Nat) (nums : List Nat), 0 < n → n ≤ 999999 →
    ∃ d', run l i nums true n d = run (l.drop (more l n).2) (i + (more l n).2) nums true (more l n).1 d' ∧ ∀ c, (l.drop (more l n).2).head? = some c → isD c = true → over (more l n).1 d' c = true := by
  induction l with
  | nil => intro n d i nums _ _; exact ⟨d, by simp [more], by simp [more]⟩
  | cons c cs ih =>
    intro n d i nums h0 h1
    by_cases hc : isD c = true ∧ n * 10 + dv c ≤ 999999
    · have e : more (c :: cs) n = ((more cs (n * 10 + dv c)).1, (more cs (n * 10 + dv c)).2 + 1) := by
        conv => lhs; unfold more
        rw [if_pos ⟨h0, hc.1, hc.2⟩]
      obtain ⟨d', h2, h3⟩ := ih (n * 10 + dv c) (d + 1) (i + 1) nums (by omega) hc.2
      have ho : over n d c = false := by
        unfold over
        rw [decide_eq_false_iff_not]
        omega
      refine ⟨d', ?_, ?_⟩
      · rw [e]
        have : run (c :: cs) i nums true n d = run cs (i + 1) nums true (n * 10 + dv c) (d + 1) := by
          conv => lhs; unfold run
          simp [hc.1, ho, Nat.mul_comm]
        rw [this, h2]
        simp only [List.drop_succ_cons]
        rw [show i + 1 + (more cs (n * 10 + dv c)).2 = i + ((more cs (n * 10 + dv c)).2 + 1) by omega]
      · rw [e]
        simpa using h3
    · have e : more (c :: cs) n = (n, 0) := by
        conv => lhs; unfold more
        rw [if_neg (fun h => hc ⟨h.2.1, h.2.2⟩)]
      rw [e]
      refine ⟨d, by simp, ?_⟩
      intro c' h2 h3
      simp at h2
      subst h2
      unfold over
      rw [decide_eq_true_eq]
      refine .inr ?_
      have : ¬ (n * 10 + dv c ≤ 999999) := fun h => hc ⟨h3, h⟩
      show 999999 < 10 * n + dv c
      omega

/-- a number, from its first byte on -/
theorem num_run {l : List UInt8} {v k : Nat} (h : num l = some (v, k)) (i n d : Nat) (nums : List Nat) (hf : full nums = false) :
    ∃ d', run l i nums false n d = run (l.drop k) (i + k) nums true v d' ∧ ∀ c, (l.drop k).head? = some c → isD c = true → over v d' c = true := by
  cases l with
  | nil => simp [num] at h
  | cons c cs =>
    by_cases hd : isD c = true
    · have hv := dv_le c hd
      have e : num (c :: cs) = some ((more cs (dv c)).1, (more cs (dv c)).2 + 1) := by simp [num, hd]
      rw [e] at h
      simp only [Option.some.injEq, Prod.mk.injEq] at h
      obtain ⟨rfl, rfl⟩ := h
      have h1 : run (c :: cs) i nums false n d = run cs (i + 1) nums true (dv c) 1 := by
        conv => lhs; unfold run
        simp [hf, hd]
      by_cases hz : dv c = 0
      · rw [h1, hz, more_zero']
        refine ⟨1, by simp, ?_⟩
        intro c' h2 h3
        unfold over
        simp
      · obtain ⟨d', h2, h3⟩ := more_run cs (dv c) 1 (i + 1) nums (by omega) (by omega)
        refine ⟨d', ?_, by simpa using h3⟩
        rw [h1, h2]
        simp only [List.drop_succ_cons]
        rw [show i + 1 + (more cs (dv c)).2 = i + ((more cs (dv c)).2 + 1) by omega]
    · simp [num, hd] at h
theorem num_none_run {l : List UInt8} (h : num l = none) (i n d : Nat) (nums : List Nat) (hf : full nums = false) (L : Nat) (hL : L = i + l.length) : fin L (run l i nums false n d) = .inl i := by
  cases l with
  | nil => simp at hL; subst hL; simp [run, fin, hf]
  | cons c cs =>
    by_cases hd : isD c = true
    · simp [num, hd] at h
    · simp [run, hd, fin]

theorem full_odd {nums : List Nat} (h : nums.length % 2 = 1) : full nums = false := by
  unfold full
  rw [decide_eq_false_iff_not]
  omega

/-- a line of two numbers -/
theorem pair_run {l : List UInt8} {c : Nat} {r : Option (Nat × Nat)} (h : pair l = (c, r)) (i n d : Nat) (nums : List Nat) (hf : full nums = false) (he : nums.length % 2 = 0) (L : Nat) (hL : L = i + l.length) :
    (r = none → fin L (run l i nums false n d) = .inl (i + c)) ∧ (∀ x y, r = some (x, y) → ∃ n' d', run l i nums false n d = run (l.drop c) (i + c) (nums ++ [x, y]) false n' d') := by
  unfold pair at h
  split at h
  · rename_i h1
    simp only [Prod.mk.injEq] at h
    obtain ⟨rfl, rfl⟩ := h
    exact ⟨fun _ => by rw [num_none_run h1 i n d nums hf L hL]; rfl, fun x y hr => by cases hr⟩
  · rename_i v k h1
    have a1 := num_le h1
    obtain ⟨d1, e1, c1⟩ := num_run h1 i n d nums hf
    have w1 : want nums = 32 := by unfold want; rw [if_neg (by omega)]
    have r1 := run_closed (i := i + k) (nums := nums) c1
    rw [w1] at r1
    have hL1 : L = i + k + (l.drop k).length := by rw [List.length_drop]; omega
    split at h
    · rename_i h2
      have b1 : k < l.length := by
        refine Decidable.byContradiction fun hc => ?_
        rw [List.drop_eq_nil_of_le (by omega)] at h2
        cases h2
      have e2 := r1.1 h2
      rw [List.drop_drop] at e2
      have hf2 : full (nums ++ [v]) = false := full_odd (by simp; omega)
      have hL2 : L = i + k + 1 + (l.drop (k + 1)).length := by rw [List.length_drop]; omega
      split at h
      · rename_i h3
        simp only [Prod.mk.injEq] at h
        obtain ⟨rfl, rfl⟩ := h
        refine ⟨fun _ => ?_, fun x y hr => by cases hr⟩
        rw [e1, e2, num_none_run h3 _ _ _ _ hf2 L hL2]
        simp
        omega
      · rename_i v2 k2 h3
        have a2 := num_le h3
        rw [List.length_drop] at a2
        obtain ⟨d3, e3, c3⟩ := num_run h3 (i + k + 1) v d1 (nums ++ [v]) hf2
        rw [List.drop_drop] at e3 c3
        have w3 : want (nums ++ [v]) = 10 := by unfold want; rw [if_pos (by simp; omega)]
        have r3 := run_closed (i := i + k + 1 + k2) (nums := nums ++ [v]) c3
        rw [w3] at r3
        have hL3 : L = i + k + 1 + k2 + (l.drop (k + 1 + k2)).length := by rw [List.length_drop]; omega
        split at h
        · rename_i h4
          simp only [Prod.mk.injEq] at h
          obtain ⟨rfl, rfl⟩ := h
          refine ⟨fun hr => (by cases hr), fun x y hr => ?_⟩
          simp only [Option.some.injEq, Prod.mk.injEq] at hr
          obtain ⟨rfl, rfl⟩ := hr
          have e4 := r3.1 h4
          rw [List.drop_drop] at e4
          refine ⟨v2, d3, ?_⟩
          rw [e1, e2, e3, e4]
          simp only [List.append_assoc, List.cons_append, List.nil_append]
          rw [show i + k + 1 + k2 + 1 = i + (k + 1 + k2 + 1) by omega]
        · rename_i h4
          simp only [Prod.mk.injEq] at h
          obtain ⟨rfl, rfl⟩ := h
          refine ⟨fun _ => ?_, fun x y hr => by cases hr⟩
          rw [e1, e2, e3, r3.2 h4 L hL3]
          simp
          omega
    · rename_i h2
      simp only [Prod.mk.injEq] at h
      obtain ⟨rfl, rfl⟩ := h
      refine ⟨fun _ => ?_, fun x y hr => by cases hr⟩
      rw [e1, r1.2 h2 L hL1]

/-- edges as numbers -/
def flat (es : List (Nat × Nat)) : List Nat := es.flatMap fun e => [e.1, e.2]
theorem flat_len (es : List (Nat × Nat)) : (flat es).length = es.length * 2 := by
  induction es with
  | nil => rfl
  | cons e es ih =>
    have : flat (e :: es) = e.1 :: e.2 :: flat es := by simp [flat]
    rw [this]
    simp [ih]
    omega
theorem getD_append_one {nums l : List Nat} (h : 2 ≤ nums.length) : (nums ++ l).getD 1 0 = nums.getD 1 0 := by
  rw [List.getD_eq_getElem?_getD, List.getD_eq_getElem?_getD, List.getElem?_append_left (by omega)]

theorem edges_run (m : Nat) : ∀ (l : List UInt8) (c : Nat) (r : Option (List (Nat × Nat))), edges l m = (c, r) → ∀ (i n d : Nat) (nums : List Nat), 2 ≤ nums.length → nums.length % 2 = 0 → (nums.length - 2) / 2 + m = nums.getD 1 0 → ∀ L, L = i + l.length →
    (r = none → fin L (run l i nums false n d) = .inl (i + c)) ∧ (∀ es, r = some es → es.length = m ∧ ∃ n' d', run l i nums false n d = run (l.drop c) (i + c) (nums ++ flat es) false n' d') := by
  induction m with
  | zero =>
    intro l c r h i n d nums h2 he hm L hL
    simp only [edges, Prod.mk.injEq] at h
    obtain ⟨rfl, rfl⟩ := h
    refine ⟨fun hr => (by cases hr), fun es hr => ?_⟩
    cases hr
    exact ⟨rfl, n, d, by simp [flat]⟩
  | succ m ih =>
    intro l c r h i n d nums h2 he hm L hL
    have hf : full nums = false := by
      unfold full
      rw [decide_eq_false_iff_not]
      omega
    have hpl := pair_le l
    cases hp : pair l with
    | mk c1 p =>
      rw [hp] at hpl
      have hpl2 : c1 ≤ l.length := hpl
      have pr := pair_run hp i n d nums hf he L hL
      cases p with
      | none =>
        rw [edges_no hp] at h
        simp only [Prod.mk.injEq] at h
        obtain ⟨rfl, rfl⟩ := h
        exact ⟨fun _ => pr.1 rfl, fun es hr => by cases hr⟩
      | some e =>
        obtain ⟨x, y⟩ := e
        rw [edges_go hp] at h
        obtain ⟨n1, d1, e1⟩ := pr.2 x y rfl
        cases hq : edges (l.drop c1) m with
        | mk c2 r2 =>
          rw [hq] at h
          simp only [Prod.mk.injEq] at h
          obtain ⟨rfl, rfl⟩ := h
          have hg := getD_append_one (l := [x, y]) h2
          have := ih (l.drop c1) c2 r2 hq (i + c1) n1 d1 (nums ++ [x, y]) (by simp) (by simp; omega) (by rw [hg]; simp only [List.length_append, List.length_cons, List.length_nil]; omega) L (by rw [List.length_drop]; omega)
          refine ⟨fun hr => ?_, fun es hr => ?_⟩
          · have hr2 : r2 = none := by simpa using hr
            rw [e1, this.1 hr2, Nat.add_assoc]
          · obtain ⟨es2, h3, rfl⟩ := Option.map_eq_some_iff.1 hr
            obtain ⟨h4, n2, d2, e2⟩ := this.2 es2 h3
            refine ⟨by simp [h4], n2, d2, ?_⟩
            rw [e1, e2, List.drop_drop, Nat.add_assoc]
            simp [flat]

/-- the whole: both ways come to the same -/
theorem graph_run (l : List UInt8) (c : Nat) (r : Option (Nat × List (Nat × Nat))) (h : graph l = (c, r)) (n d : Nat) :
    (r = none → fin l.length (run l 0 [] false n d) = .inl c) ∧ (∀ V es, r = some (V, es) → fin l.length (run l 0 [] false n d) = .inr (V :: es.length :: flat es)) := by
  have hf : full [] = false := by decide
  unfold graph at h
  split at h
  · rename_i c1 hp
    simp only [Prod.mk.injEq] at h
    obtain ⟨rfl, rfl⟩ := h
    have pr := pair_run hp 0 n d [] hf rfl l.length (by simp)
    exact ⟨fun _ => by rw [pr.1 rfl]; simp, fun V es hr => by cases hr⟩
  · rename_i c1 V m hp
    have hpl := pair_le l
    rw [hp] at hpl
    have hpl2 : c1 ≤ l.length := hpl
    obtain ⟨n1, d1, e1⟩ := (pair_run hp 0 n d [] hf rfl l.length (by simp)).2 V m rfl
    simp only [Nat.zero_add, List.nil_append] at e1
    split at h
    · rename_i c2 hq
      simp only [Prod.mk.injEq] at h
      obtain ⟨rfl, rfl⟩ := h
      have er := edges_run m _ c2 none hq c1 n1 d1 [V, m] (by simp) (by simp) (by simp) l.length (by rw [List.length_drop]; omega)
      exact ⟨fun _ => by rw [e1, er.1 rfl], fun V es hr => by cases hr⟩
    · rename_i c2 es hq
      simp only [Prod.mk.injEq] at h
      obtain ⟨rfl, rfl⟩ := h
      have er := edges_run m _ c2 (some es) hq c1 n1 d1 [V, m] (by simp) (by simp) (by simp) l.length (by rw [List.length_drop]; omega)
      obtain ⟨hl, n2, d2, e2⟩ := er.2 es rfl
      have hfull : full (V :: m :: flat es) = true := by
        unfold full
        rw [decide_eq_true_eq]
        have := flat_len es
        refine ⟨by simp, by simp; omega, ?_⟩
        simp
        omega
      have e3 : run l 0 [] false n d = run (l.drop (c1 + c2)) (c1 + c2) (V :: m :: flat es) false n2 d2 := by
        rw [e1, e2, List.drop_drop]
        simp
      rw [e3]
      by_cases hend : l.length = c1 + c2
      · rw [if_pos hend]
        refine ⟨fun hr => (by cases hr), fun V' es' hr => ?_⟩
        cases hr
        rw [List.drop_eq_nil_of_le (by omega)]
        simp [run, fin, hfull, hl]
      · rw [if_neg hend]
        refine ⟨fun _ => ?_, fun V' es' hr => by cases hr⟩
        cases hd : l.drop (c1 + c2) with
        | nil =>
          exfalso
          have hlen := congrArg List.length hd
          rw [List.length_drop, List.length_nil] at hlen
          -- what was taken is no more than there is
          have hle : ∀ (m : Nat) (l : List UInt8), (edges l m).1 ≤ l.length := by
            intro m
            induction m with
            | zero => intro l; simp [edges]
            | succ m ih =>
              intro l
              have h1 := pair_le l
              cases hp : pair l with
              | mk c p =>
                rw [hp] at h1
                have h1' : c ≤ l.length := h1
                cases p with
                | none => rw [edges_no hp]; exact h1'
                | some e =>
                  rw [edges_go hp]
                  have := ih (l.drop c)
                  rw [List.length_drop] at this
                  show c + (edges (l.drop c) m).1 ≤ _
                  omega
          have h5 := hle m (l.drop c1)
          rw [hq, List.length_drop] at h5
          have h6 : c2 ≤ l.length - c1 := h5
          omega
        | cons x xs => simp [run, hfull, fin]
/-- an edge with an end that is no vertex -/
def bad (V : Nat) (e : Nat × Nat) : Bool := decide (V ≤ e.1 ∨ V ≤ e.2)

/-- the document's answer: vertices, edges, the error's number, its place -/
def readR (l : List UInt8) : Nat × List (Nat × Nat) × Nat × Nat :=
  if 4096 < l.length then (0, [], 10, 4096) else
  match graph l with
  | (c, none) => (0, [], 11, c)
  | (_, some (V, es)) =>
    if 1 ≤ V ∧ V ≤ 24 ∧ es.length ≤ 40 then
      match es.findIdx? (bad V) with
      | some k => (0, [], 12, k)
      | none => (V, es, 0, 0)
    else (0, [], 10, 0)

theorem readR_large {l : List UInt8} (h : 4096 < l.length) : readR l = (0, [], 10, 4096) := by
  unfold readR
  rw [if_pos h]
theorem readR_wrong {l : List UInt8} {c : Nat} (h : l.length ≤ 4096) (hg : graph l = (c, none)) : readR l = (0, [], 11, c) := by
  unfold readR
  rw [if_neg (by omega), hg]
theorem readR_limits {l : List UInt8} {c V : Nat} {es : List (Nat × Nat)} (h : l.length ≤ 4096) (hg : graph l = (c, some (V, es))) (hf : ¬ (1 ≤ V ∧ V ≤ 24 ∧ es.length ≤ 40)) : readR l = (0, [], 10, 0) := by
  unfold readR
  rw [if_neg (by omega), hg]
  simp only
  rw [if_neg hf]
theorem readR_vertex {l : List UInt8} {c V k : Nat} {es : List (Nat × Nat)} (h : l.length ≤ 4096) (hg : graph l = (c, some (V, es))) (hf : 1 ≤ V ∧ V ≤ 24 ∧ es.length ≤ 40)
    (hk : k < es.length) (hb : ∀ j, j < k → bad V (es.getD j (0, 0)) = false) (hbk : bad V (es.getD k (0, 0)) = true) : readR l = (0, [], 12, k) := by
  have hfi : es.findIdx? (bad V) = some k := by
    rw [List.findIdx?_eq_some_iff_getElem]
    refine ⟨hk, ?_, fun j hj => ?_⟩
    · simpa [hk] using hbk
    · have hj2 : j < es.length := by omega
      simpa [hj2] using hb j hj
  unfold readR
  rw [if_neg (by omega), hg]
  simp only
  rw [if_pos hf, hfi]
theorem readR_ok {l : List UInt8} {c V : Nat} {es : List (Nat × Nat)} (h : l.length ≤ 4096) (hg : graph l = (c, some (V, es))) (hf : 1 ≤ V ∧ V ≤ 24 ∧ es.length ≤ 40)
    (hb : ∀ j, j < es.length → bad V (es.getD j (0, 0)) = false) : readR l = (V, es, 0, 0) := by
  have hfi : es.findIdx? (bad V) = none := by
    rw [List.findIdx?_eq_none_iff]
    intro e he
    obtain ⟨j, hj, rfl⟩ := List.getElem_of_mem he
    simpa [hj] using hb j hj
  unfold readR
  rw [if_neg (by omega), hg]
  simp only
  rw [if_pos hf, hfi]

theorem syn_of {l : List UInt8} {p : Nat} (h : l.length ≤ 4096) (hr : fin l.length (run l 0 [] false 0 0) = .inl p) : readR l = (0, [], 11, p) := by
  cases hg : graph l with
  | mk c r =>
    have := graph_run l c r hg 0 0
    cases r with
    | none =>
      rw [this.1 rfl] at hr
      cases hr
      exact readR_wrong h hg
    | some x =>
      obtain ⟨V, es⟩ := x
      rw [this.2 V es rfl] at hr
      cases hr
theorem ok_of {l : List UInt8} {nums : List Nat} (hr : fin l.length (run l 0 [] false 0 0) = .inr nums) : ∃ c V es, graph l = (c, some (V, es)) ∧ nums = V :: es.length :: flat es := by
  cases hg : graph l with
  | mk c r =>
    have := graph_run l c r hg 0 0
    cases r with
    | none =>
      rw [this.1 rfl] at hr
      cases hr
    | some x =>
      obtain ⟨V, es⟩ := x
      rw [this.2 V es rfl] at hr
      cases hr
      exact ⟨c, V, es, rfl, rfl⟩
end Go.Proofs.Ytdcfhdpbpfgohaa.Pl

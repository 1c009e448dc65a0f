/-
  How many angles are High, how many vertices are sources or sinks, how much room there is in all: plain mathematics. No conditions beyond each theorem's own.
-/
import Derived.Test.YtefagplbpbkpgaaDoorJ13
import Derived.Test.YtefagplbpbkpgaaDoorJ16
import Derived.Test.YtefagplbpbkpgaaDoorJ8
namespace Go.Proofs.YtefagplbpbkpgaaDoor
set_option linter.unusedVariables false
set_option maxRecDepth 20000
theorem cn_odd : ∀ n, cn (fun t => decide (t % 2 = 1)) (2 * n) = n := by
  intro n
  induction n with
  | zero => rfl
  | succ n ih =>
    rw [show 2 * (n + 1) = 2 * n + 1 + 1 by omega, cn_succ, cn_succ, ih, if_neg (by simp), if_pos (by simp)]
theorem first_change {f : Nat → Bool} (h0 : f 0 = true) : ∀ k, f k = false → ∃ i, f i = true ∧ f (i + 1) = false := by
  intro k
  induction k with
  | zero => intro h; rw [h0] at h; cases h
  | succ k ih =>
    intro h
    cases hk : f k with
    | true => exact ⟨k, hk, h⟩
    | false => exact ih hk
theorem two_memA {l : List Nat} {a b : Nat} (ha : a ∈ l) (hb : b ∈ l) (hne : a ≠ b) : 2 ≤ l.length := by
  match l, ha, hb with
  | [], ha, _ => simp at ha
  | [c], ha, hb => simp at ha hb; omega
  | _ :: _ :: _, _, _ => simp
/-- vertices that are neither source nor sink -/
def inn (es : List (Nat × Nat)) (V : Nat) : Nat := cn (fun x => !isEnd es x) V
section
variable {V : Nat} {es : List (Nat × Nat)} {q : List (List Nat)} {N F : Nat → Nat}
theorem ins_odd {x : Nat} : (Pl.ins es x).isEmpty = false ↔ ∃ t, t < 2 * es.length ∧ t % 2 = 1 ∧ pt.stV es t = x := by
  rw [List.isEmpty_eq_false_iff_exists_mem]
  constructor
  · rintro ⟨i, hi⟩
    obtain ⟨h1, h2⟩ := Pl.mem_sel.1 hi
    refine ⟨2 * i + 1, by omega, by omega, ?_⟩
    unfold pt.stV
    rw [if_neg (by omega), show (2 * i + 1) / 2 = i by omega]
    exact eq_of_beq h2
  · rintro ⟨t, h1, h2, h3⟩
    refine ⟨t / 2, Pl.mem_sel.2 ⟨by omega, ?_⟩⟩
    unfold pt.stV at h3
    rw [if_neg (by omega)] at h3
    simpa [Pl.at'] using h3
theorem outs_even {x : Nat} : (Pl.outs es x).isEmpty = false ↔ ∃ t, t < 2 * es.length ∧ t % 2 = 0 ∧ pt.stV es t = x := by
  rw [List.isEmpty_eq_false_iff_exists_mem]
  constructor
  · rintro ⟨i, hi⟩
    obtain ⟨h1, h2⟩ := Pl.mem_sel.1 hi
    refine ⟨2 * i, by omega, by omega, ?_⟩
    unfold pt.stV
    rw [if_pos (by omega), show (2 * i) / 2 = i by omega]
    exact eq_of_beq h2
  · rintro ⟨t, h1, h2, h3⟩
    refine ⟨t / 2, Pl.mem_sel.2 ⟨by omega, ?_⟩⟩
    unfold pt.stV at h3
    rw [if_pos h2] at h3
    simpa [Pl.at'] using h3
theorem knd0 (j b : Nat) : knd j b = 0 ↔ j % 2 ≠ b % 2 := by
  unfold knd
  split
  · constructor
    · intro h; omega
    · intro h; omega
  · split
    · constructor
      · intro h; omega
      · intro h; omega
    · constructor
      · intro _; omega
      · intro _; rfl
theorem knd2' (j b : Nat) : knd j b = 2 ↔ j % 2 = 1 ∧ b % 2 = 1 := by
  have := knd2 (oth j) b
  rw [oth_oth] at this
  rw [this]
  have := oth_par j
  constructor
  · rintro ⟨h1, h2⟩; exact ⟨by omega, h2⟩
  · rintro ⟨h1, h2⟩; exact ⟨by omega, h2⟩
/-- at a vertex edges to it that are followed by one from it -/
def tx (es : List (Nat × Nat)) (N : Nat → Nat) (x : Nat) : Nat := cn (fun t => decide (pt.stV es t = x) && decide (t % 2 = 1) && decide (pt.suN N t % 2 = 0)) (2 * es.length)
theorem pc_tx (r : pt.Ro V es q) (hN : Behind q N) (p : Pm N (2 * es.length)) (x : Nat) : pc (angI (pt.stV es) F N) (2 * es.length) x = 2 * tx es N x := by
  have ps : Pm (pt.suN N) (2 * es.length) := pt.Pm.oth p
  have h1 := cn_perm ps (fun t => decide (pt.stV es t = x) && decide (t % 2 = 1))
  have h2 := cn_split (fun t => decide (pt.stV es t = x) && decide (t % 2 = 1)) (fun t => decide (pt.suN N t % 2 = 1)) (2 * es.length)
  have h3 := cn_split (fun t => decide (pt.stV es t = x) && decide (pt.suN N t % 2 = 1)) (fun t => decide (t % 2 = 1)) (2 * es.length)
  have e1 : cn (fun j => decide (pt.stV es (pt.suN N j) = x) && decide (pt.suN N j % 2 = 1)) (2 * es.length) = cn (fun t => decide (pt.stV es t = x) && decide (pt.suN N t % 2 = 1)) (2 * es.length) := cn_congr fun j hj => by rw [pt.stV_su r hN hj]
  have e2 : cn (fun j => (decide (pt.stV es j = x) && decide (j % 2 = 1)) && decide (pt.suN N j % 2 = 1)) (2 * es.length) = cn (fun j => (decide (pt.stV es j = x) && decide (pt.suN N j % 2 = 1)) && decide (j % 2 = 1)) (2 * es.length) := cn_congr fun j hj => by
    cases decide (pt.stV es j = x) <;> cases decide (j % 2 = 1) <;> cases decide (pt.suN N j % 2 = 1) <;> rfl
  have e3 : cn (fun j => (decide (pt.stV es j = x) && decide (j % 2 = 1)) && !decide (pt.suN N j % 2 = 1)) (2 * es.length) = tx es N x := cn_congr fun j hj => by
    rw [Bool.eq_iff_iff]
    simp only [Bool.and_eq_true, decide_eq_true_eq, Bool.not_eq_true', decide_eq_false_iff_not]
    constructor
    · rintro ⟨h, k⟩; exact ⟨h, by omega⟩
    · rintro ⟨h, k⟩; exact ⟨h, by omega⟩
  have h4 := cn_split (fun t => decide (angI (pt.stV es) F N t 3 = 0 ∧ angI (pt.stV es) F N t 1 = x)) (fun t => decide (t % 2 = 1)) (2 * es.length)
  have e4 : cn (fun t => decide (angI (pt.stV es) F N t 3 = 0 ∧ angI (pt.stV es) F N t 1 = x) && decide (t % 2 = 1)) (2 * es.length) = tx es N x := cn_congr fun j hj => by
    rw [Bool.eq_iff_iff]
    simp only [Bool.and_eq_true, decide_eq_true_eq]
    have k3 : angI (pt.stV es) F N j 3 = knd j (pt.suN N j) := rfl
    have k1 : angI (pt.stV es) F N j 1 = pt.stV es j := rfl
    rw [k3, k1, knd0]
    constructor
    · rintro ⟨⟨h, k⟩, l⟩; exact ⟨⟨k, l⟩, by omega⟩
    · rintro ⟨⟨k, l⟩, h⟩; exact ⟨⟨by omega, k⟩, l⟩
  have e5 : cn (fun t => decide (angI (pt.stV es) F N t 3 = 0 ∧ angI (pt.stV es) F N t 1 = x) && !decide (t % 2 = 1)) (2 * es.length) = cn (fun j => (decide (pt.stV es j = x) && decide (pt.suN N j % 2 = 1)) && !decide (j % 2 = 1)) (2 * es.length) := cn_congr fun j hj => by
    rw [Bool.eq_iff_iff]
    simp only [Bool.and_eq_true, decide_eq_true_eq, Bool.not_eq_true', decide_eq_false_iff_not]
    have k3 : angI (pt.stV es) F N j 3 = knd j (pt.suN N j) := rfl
    have k1 : angI (pt.stV es) F N j 1 = pt.stV es j := rfl
    rw [k3, k1, knd0]
    constructor
    · rintro ⟨⟨h, k⟩, l⟩; exact ⟨⟨k, by omega⟩, l⟩
    · rintro ⟨⟨k, h⟩, l⟩; exact ⟨⟨by omega, k⟩, l⟩
  have e6 : pc (angI (pt.stV es) F N) (2 * es.length) x = cn (fun t => decide (angI (pt.stV es) F N t 3 = 0 ∧ angI (pt.stV es) F N t 1 = x)) (2 * es.length) := rfl
  omega
theorem su_it_st (r : pt.Ro V es q) (hN : Behind q N) (p : Pm N (2 * es.length)) {t : Nat} (ht : t < 2 * es.length) : ∀ k, it (pt.suN N) k t < 2 * es.length ∧ pt.stV es (it (pt.suN N) k t) = pt.stV es t := by
  intro k
  induction k with
  | zero => exact ⟨ht, rfl⟩
  | succ k ih => exact ⟨(pt.Pm.oth p).lt _ ih.1, (pt.stV_su r hN ih.1).trans ih.2⟩
/-- as many High as edges, less inner vertices -/
theorem high_count (r : pt.Ro V es q) (hN : Behind q N) (p : Pm N (2 * es.length)) (hb : Bim (angI (pt.stV es) F N) (2 * es.length) V) : cn (fun t => decide (angI (pt.stV es) F N t 3 = 2)) (2 * es.length) + inn es V = es.length := by
  have h1 := cn_split (fun t => decide (t % 2 = 1)) (fun t => decide (pt.suN N t % 2 = 1)) (2 * es.length)
  rw [cn_odd] at h1
  have e1 : cn (fun t => decide (t % 2 = 1) && decide (pt.suN N t % 2 = 1)) (2 * es.length) = cn (fun t => decide (angI (pt.stV es) F N t 3 = 2)) (2 * es.length) := cn_congr fun j hj => by
    rw [Bool.eq_iff_iff]
    simp only [Bool.and_eq_true, decide_eq_true_eq]
    have k3 : angI (pt.stV es) F N j 3 = knd j (pt.suN N j) := rfl
    rw [k3, knd2']
  have e2 : cn (fun t => decide (t % 2 = 1) && !decide (pt.suN N t % 2 = 1)) (2 * es.length) = inn es V := by
    unfold inn cn
    refine Nat.le_antisymm ?_ ?_
    · refine pt.inj_len (R := fun t x => pt.stV es t = x) _ _ (List.nodup_range.sublist List.filter_sublist) (fun t ht => ?_) ?_
      · rw [List.mem_filter, List.mem_range, Bool.and_eq_true, decide_eq_true_eq, Bool.not_eq_true', decide_eq_false_iff_not] at ht
        obtain ⟨h2, h3, h4⟩ := ht
        refine ⟨pt.stV es t, ?_, rfl⟩
        rw [List.mem_filter, List.mem_range]
        refine ⟨(r.at h2).1, ?_⟩
        have a1 : (Pl.ins es (pt.stV es t)).isEmpty = false := ins_odd.2 ⟨t, h2, h3, rfl⟩
        have a2 : (Pl.outs es (pt.stV es t)).isEmpty = false := outs_even.2 ⟨pt.suN N t, (pt.Pm.oth p).lt t h2, by omega, pt.stV_su r hN h2⟩
        unfold isEnd
        rw [a1, a2]
        rfl
      · intro t t' x ht ht' hx hx'
        rw [List.mem_filter, List.mem_range, Bool.and_eq_true, decide_eq_true_eq, Bool.not_eq_true', decide_eq_false_iff_not] at ht ht'
        refine Classical.byContradiction fun hne => ?_
        have hxV : x < V := by rw [← hx]; exact (r.at ht.1).1
        have hp := hb x hxV
        rw [pc_tx r hN p] at hp
        have m1 : t ∈ (List.range (2 * es.length)).filter (fun t => decide (pt.stV es t = x) && decide (t % 2 = 1) && decide (pt.suN N t % 2 = 0)) := by
          rw [List.mem_filter, List.mem_range]
          exact ⟨ht.1, by simp only [Bool.and_eq_true, decide_eq_true_eq]; exact ⟨⟨hx, ht.2.1⟩, by omega⟩⟩
        have m2 : t' ∈ (List.range (2 * es.length)).filter (fun t => decide (pt.stV es t = x) && decide (t % 2 = 1) && decide (pt.suN N t % 2 = 0)) := by
          rw [List.mem_filter, List.mem_range]
          exact ⟨ht'.1, by simp only [Bool.and_eq_true, decide_eq_true_eq]; exact ⟨⟨hx', ht'.2.1⟩, by omega⟩⟩
        have := two_memA m1 m2 hne
        have e : tx es N x = ((List.range (2 * es.length)).filter (fun t => decide (pt.stV es t = x) && decide (t % 2 = 1) && decide (pt.suN N t % 2 = 0))).length := rfl
        omega
    · refine pt.inj_len (R := fun x t => pt.stV es t = x) _ _ (List.nodup_range.sublist List.filter_sublist) (fun x hx => ?_) ?_
      · rw [List.mem_filter, List.mem_range] at hx
        obtain ⟨hxV, hin⟩ := hx
        unfold isEnd at hin
        simp only [Bool.not_eq_true', Bool.or_eq_false_iff] at hin
        obtain ⟨t0, a1, a2, a3⟩ := ins_odd.1 hin.1
        obtain ⟨t1, b1, b2, b3⟩ := outs_even.1 hin.2
        have m0 : t0 ∈ q.getD x [] := by have := (r.at a1).2; rwa [a3] at this
        have m1 : t1 ∈ q.getD x [] := by have := (r.at b1).2; rwa [b3] at this
        obtain ⟨i, hi, ei⟩ := pt.in_getD m0
        obtain ⟨k, hk, ek⟩ := pt.in_getD m1
        have hit := pt.su_it r hN hxV hi (k + (q.getD x []).length - i)
        rw [ei, show i + (k + (q.getD x []).length - i) = k + (q.getD x []).length by omega, Nat.add_mod_right, Nat.mod_eq_of_lt hk, ek] at hit
        obtain ⟨j, hj1, hj2⟩ := first_change (f := fun k => decide ((it (pt.suN N) k t0) % 2 = 1)) (by show decide (t0 % 2 = 1) = true; simp [a2]) _ (by show decide ((it (pt.suN N) (k + (q.getD x []).length - i) t0) % 2 = 1) = false; rw [hit]; simp [b2])
        obtain ⟨c1, c2⟩ := su_it_st r hN p a1 j
        refine ⟨it (pt.suN N) j t0, ?_, c2.trans a3⟩
        rw [List.mem_filter, List.mem_range]
        refine ⟨c1, ?_⟩
        rw [Bool.and_eq_true]
        exact ⟨hj1, by have : decide (pt.suN N (it (pt.suN N) j t0) % 2 = 1) = false := hj2; rw [this]; rfl⟩
      · intro a b t _ _ h1 h2
        exact h1.symm.trans h2
  omega
/-- no vertex is alone -/
theorem no_alone (r : pt.Ro V es q) {c : Nat} (hc : pt.IsCnt V es c) (h1 : c ≤ 1) (h0 : 0 < es.length) {x : Nat} (hx : x < V) : ¬ ((Pl.ins es x).isEmpty = true ∧ (Pl.outs es x).isEmpty = true) := by
  rintro ⟨hi, ho⟩
  have hfar : ∀ e ∈ es, e.1 ≠ x ∧ e.2 ≠ x := fun e he => by
    obtain ⟨i, hil, ei⟩ := List.getElem_of_mem he
    have ea : Pl.at' es i = e := by unfold Pl.at'; simp [List.getD, hil, ei]
    constructor
    · intro h
      have : i ∈ Pl.outs es x := Pl.mem_sel.2 ⟨hil, by rw [ea]; simpa using h⟩
      rw [List.isEmpty_iff.1 ho] at this
      simp at this
    · intro h
      have : i ∈ Pl.ins es x := Pl.mem_sel.2 ⟨hil, by rw [ea]; simpa using h⟩
      rw [List.isEmpty_iff.1 hi] at this
      simp at this
  have hst : ∀ y, pt.Star (pt.Bd es fun _ => false) x y → y = x := fun y hs => by
    refine hs (fun y => y = x) rfl ?_
    intro a b ha hab
    subst ha
    rcases pt.bd0.1 hab with h | h
    · exact absurd rfl (hfar _ h).1
    · exact absurd rfl (hfar _ h).2
  have he0 : es.getD 0 (0, 0) ∈ es := by simp [List.getD, h0]
  have hu := (r.ends 0 h0).1
  obtain ⟨y, hy1, hy2, hy3⟩ := pt.rep_ex es (fun _ => false) (es.getD 0 (0, 0)).1 rfl
  have hyx : y ≠ x := fun e => by
    subst e
    have := hst _ (pt.Conn.symm hy2)
    exact (hfar _ he0).1 this
  have hrx : pt.Rep es (fun _ => false) x := ⟨rfl, fun z hz hs => by have := hst z hs; omega⟩
  obtain ⟨rr, hr, rfl⟩ := hc
  have m1 : x ∈ (List.range V).filter rr := by rw [List.mem_filter, List.mem_range]; exact ⟨hx, (hr x hx).2 hrx⟩
  have m2 : y ∈ (List.range V).filter rr := by rw [List.mem_filter, List.mem_range]; exact ⟨by omega, (hr y (by omega)).2 hy3⟩
  have := two_memA m2 m1 hyx
  omega
theorem ends_count (r : pt.Ro V es q) {c : Nat} (hc : pt.IsCnt V es c) (h1 : c ≤ 1) (h0 : 0 < es.length) : (bare (Pl.ins es) V).length + (bare (Pl.outs es) V).length + inn es V = V := by
  have a1 := cn_split (fun _ => true) (fun x => (Pl.ins es x).isEmpty) V
  have a0 : cn (fun _ => true) V = V := by unfold cn; rw [List.filter_eq_self.2 (fun _ _ => rfl), List.length_range]
  have a2 := cn_split (fun x => true && !(Pl.ins es x).isEmpty) (fun x => (Pl.outs es x).isEmpty) V
  have e1 : cn (fun x => true && (Pl.ins es x).isEmpty) V = (bare (Pl.ins es) V).length := rfl
  have e2 : cn (fun x => (true && !(Pl.ins es x).isEmpty) && (Pl.outs es x).isEmpty) V = (bare (Pl.outs es) V).length := cn_congr fun x hx => by
    have := no_alone r hc h1 h0 hx
    cases hi : (Pl.ins es x).isEmpty <;> cases ho : (Pl.outs es x).isEmpty
    · rfl
    · rfl
    · rfl
    · exact absurd ⟨hi, ho⟩ this
  have e3 : cn (fun x => (true && !(Pl.ins es x).isEmpty) && !(Pl.outs es x).isEmpty) V = inn es V := cn_congr fun x hx => by
    unfold isEnd
    cases (Pl.ins es x).isEmpty <;> cases (Pl.outs es x).isEmpty <;> rfl
  omega
end
end Go.Proofs.YtefagplbpbkpgaaDoor
/-
  The contract of the document's Ends. Conditions: the graph lies in memory as told.
-/
namespace Go.Proofs.YtefagplbpbkpgaaDoor
open Go.RowKit
set_option linter.unusedVariables false
set_option maxRecDepth 20000
theorem step_app_ints {w : World} {ops : Array Oper} {o : Oper} {a : Act} {K : Act → World → Prop} {Q : Exit → Act → World → Prop} {E : Prop} (hgd : o.guard = none) (s x : Operand)
    (ho : o.op = .call { callee := .builtin .append, args := #[s, x], argTypes := #[37, 37] }) (base : Nat) (v : Value) (n : Nat) (xs : List Int) (hs : a.eval s = v) (hown : w.ownsRow base 3 1 v n (zcells xs))
    (ad : Option Addr) (m c : Nat) (ys : List Int) (hx : a.eval x = .slice ad m c) (hno : ad = none → m = 0 ∧ c = 0) (hys : Ns w ad m ys) (hb : n + m ≤ 1000000) (hbase : base ≤ w.heap.size)
    (h : ∀ v' w', w'.ownsRow base 3 1 v' (n + m) (zcells (xs ++ ys)) → w.grownBy w' v.ownBlock → K (a.put o.dst v') w') : if Region.wanted o (yielded ops a.tmps) = true then Oper.wp Tryd.prog o a w K Q else E := by
  have hw : Region.wanted o (yielded ops a.tmps) = true := by simp [Region.wanted, hgd]
  rw [if_pos hw]
  obtain ⟨i0, hi0, hz0, hz1, hz2⟩ := info_parts info3
  cases ad with
  | none =>
    obtain ⟨rfl, rfl⟩ := hno rfl
    have hrun := run_append_owned_none (P := Tryd.prog) (w := w) base 37 o.type 3 i0 1 Tryd.underlying37 hi0 v n (zcells xs) hown
    have : ys = [] := by have := hys.1; simpa using this
    subst this
    have hk := h v w (by rw [List.append_nil]; exact hown) ⟨rfl, rfl, rfl, Nat.le_refl _, fun _ _ _ => rfl⟩
    unfold Oper.wp
    simp [execOp, ho, resolve, invoke, builtin, hs, hx, hrun, Result.andThen]
    exact hk
  | some p =>
    refine wp_append_own w s x 37 ho base 3 i0 (.int .i64 0) 1 8 Tryd.underlying37 hi0 hz0 hz1 hz2 rfl (by decide) v n (zcells xs) hs hown p m c (zcells ys) hx (by rw [zcells_length, hys.1]; omega) hys.cells (zcells_one ys) (by unfold maxLen; omega) (by omega) hbase ?_
    intro v' w' ho' hg _
    refine h v' w' ?_ hg
    rw [show zcells (xs ++ ys) = zcells xs ++ zcells ys by simp [zcells]]
    exact ho'
theorem owns_slice3 {w : World} {base : Nat} {v : Value} {n : Nat} {xs : List Value} {e : TypeId} {k : Nat} (h : w.ownsRow base e k v n xs) : ∃ a c, v = .slice a n c ∧ (a = none → n = 0 ∧ c = 0) := by
  rcases h.2 with ⟨hv, h0⟩ | ⟨g, cap, cur, hv, _⟩
  · exact ⟨none, 0, by rw [hv, h0], fun _ => ⟨h0, rfl⟩⟩
  · exact ⟨_, cap, hv, fun h => by cases h⟩
set_option maxHeartbeats 4000000 in
theorem refends_any (w : World) (V : Nat) (a : Option Addr) (n cap : Nat) (es : List (Nat × Nat)) {B : Nat} (h : Es B w a n (toI es)) (hne : es.length = n) (hp : Plain V es) :
    Calls Tryd.prog 17 #[.agg #[.int .i64 V, .slice a n cap]] w fun e w' => (∃ v, e = .returned v ∧ w'.ownsRow w.heap.size 3 1 v ((bare (Pl.ins es) V).length + (bare (Pl.outs es) V).length) (zcells (toIs (bare (Pl.ins es) V) ++ toIs (bare (Pl.outs es) V)))) ∧ Below w.heap.size w w' := by
  have hv64 := hp.v64
  have HB0 := hide (Bg.start w (.int .i64 V) (.slice a n cap))
  have HC := hide (fun (u : World) (hu : Below w.heap.size w u) (dr : Bool) => show Calls Tryd.prog 34 #[.agg #[.int .i64 V, .slice a n cap], .bool dr] u fun e w' => (∃ v, e = .returned v ∧ w'.ownsRow u.heap.size 3 1 v (bare (atV es dr) V).length (zcells (toIs (bare (atV es dr) V)))) ∧ Below u.heap.size u w' from by
    have := refBare_any u V a cap es (by rw [hne]; exact h.below hu) hp dr
    rwa [hne] at this)
  have hl1 := bare_len (Pl.ins es) V
  have hl2 := bare_len (Pl.outs es) V
  have HC1 := hide (fun (u : World) (hu : Below w.heap.size w u) => show Calls Tryd.prog 34 #[.agg #[.int .i64 V, .slice a n cap], .bool true] u fun e w' => (∃ v, e = .returned v ∧ w'.ownsRow u.heap.size 3 1 v (bare (Pl.ins es) V).length (zcells (toIs (bare (Pl.ins es) V)))) ∧ Below u.heap.size u w' from unhide HC u hu true)
  have HC2 := hide (fun (u : World) (hu : Below w.heap.size w u) => show Calls Tryd.prog 34 #[.agg #[.int .i64 V, .slice a n cap], .bool false] u fun e w' => (∃ v, e = .returned v ∧ w'.ownsRow u.heap.size 3 1 v (bare (Pl.outs es) V).length (zcells (toIs (bare (Pl.outs es) V)))) ∧ Below u.heap.size u w' from unhide HC u hu false)
  clear HC h hne hp
  generalize (bare (Pl.ins es) V).length = m1 at *
  generalize (bare (Pl.outs es) V).length = m2 at *
  generalize toIs (bare (Pl.ins es) V) = xs at *
  generalize toIs (bare (Pl.outs es) V) = ys at *
  go_enter Tryd.func17, Tryd.ntmps17
  go_upto_region 1 with fail
  have XD := hide ((unhide HB0).step b_dr)
  refine wp_region_held_drew (S := fun u => u.cell? ⟨w.heap.size, 0, none⟩ = some (.int .i64 (V : Int)) ∧ u.cell? ⟨w.heap.size, 1, none⟩ = some (.slice a n cap)) (by kernel_rfl) (unhide XD).cells (fun hS => ?_)
  generalize (w.alloc (.cells #[.int .i64 (V : Int), .slice a n cap] 24)).drew = wd at XD hS ⊢
  clear HB0
  refine wpAnyH_take (i := 0) (v := ?_) rfl (by kernel_rfl) (by kernel_rfl) (by kernel_rfl) (fun _ _ _ h => h) (Or.inl ⟨by rfl, ?_⟩) hS ?_
  rotate_left
  · intro u hu; (try dsimp only at hu); go_simp; try with_reducible rfl
  simp only [Act.put, List.getElem_toArray, List.getElem_cons_zero, List.setIfInBounds_toArray, List.set_cons_zero, List.set_cons_succ]
  refine wpAnyH_take (i := 2) (v := ?_) rfl (by kernel_rfl) (by kernel_rfl) (by kernel_rfl) (fun _ _ _ h => h) (Or.inl ⟨by rfl, ?_⟩) hS ?_
  rotate_left
  · intro u hu; (try dsimp only at hu); go_simp; try with_reducible rfl
  simp only [Act.put, List.getElem_toArray, List.getElem_cons_zero, List.getElem_cons_succ, List.setIfInBounds_toArray, List.set_cons_zero, List.set_cons_succ]
  refine wpAnyH_ready (rs := [1]) (by kernel_rfl) (by simp) ?_
  refine AllReadyH.cons rfl (fun K hK => ?_) AllReadyH.nil
  go_simp
  go_wp2_with (go_at_call 34; refine (unhide HC1 _ (unhide XD).bel).mono ?_; rintro e w1 ⟨⟨v1, rfl, ho1⟩, hb1⟩; have X1 := hide ((unhide XD).step hb1); have HO1 := hide ho1; clear hb1 ho1)
  obtain ⟨a1, c1, rfl, hn1⟩ := owns_slice3 (unhide HO1)
  refine hK.out _ _ (unhide X1).cells (fun hS2 => ?_)
  clear hK K hS hn1
  have hsd := (unhide XD).bel.size
  refine wpAnyH_ready (rs := [3]) (by kernel_rfl) (by simp) ?_
  refine AllReadyH.cons rfl (fun K hK => ?_) AllReadyH.nil
  go_simp
  go_wp2_with (go_at_call 34; refine (unhide HC2 _ (unhide X1).bel).mono ?_; rintro e w2 ⟨⟨v2, rfl, ho2⟩, hb2⟩; have X2 := hide ((unhide X1).step hb2); have HO2 := hide ho2; have HO12 := hide (owns_below (unhide HO1) hb2); clear hb2 ho2)
  obtain ⟨a2, c2, rfl, hn2⟩ := owns_slice3 (unhide HO2)
  have HN2 := hide hn2
  have HNS2 := hide (ns_of_owns (unhide HO2) (by omega))
  refine hK.out _ _ (unhide X2).cells (fun hS3 => ?_)
  clear hK K hS2 hn2
  have hs2 := (unhide X2).bel.size
  refine wpAnyH_ready (rs := [4]) (by kernel_rfl) (by simp) ?_
  refine AllReadyH.cons rfl (fun K hK => ?_) AllReadyH.nil
  refine step_app_ints rfl (.tmp 4) (.tmp 6) rfl w.heap.size _ m1 xs rfl (owns_mono (unhide HO12) hsd) a2 m2 c2 ys rfl (unhide HN2) (by
    obtain ⟨a3, c3, e3, _, n3⟩ := unhide HNS2
    cases e3
    exact n3) (by omega) hs2 ?_
  intro v7 w7 hown7 hg7
  have hb7 : Below w.heap.size w w7 := (unhide X2).bel.grown hg7 hs2 fun b hb => by
    have := ((unhide HO12).lt b hb).1
    omega
  have hd0 : w7.heap[w.heap.size]? = some (.cells #[.int .i64 (V : Int), .slice a n cap] 24 (0, 0)) := by
    rw [hg7.block _ (unhide X2).lt (fun e => by
      have := ((unhide HO12).lt _ e.symm).1
      have := (unhide XD).lt
      omega)]
    exact (unhide X2).gb
  have X7 := hide (show Bg w w7 (.int .i64 (V : Int)) (.slice a n cap) from ⟨hb7, hd0⟩)
  have HO7 := hide hown7
  refine hK.out _ _ (unhide X7).cells (fun hS4 => ?_)
  clear hK K hS3 hown7 hg7 hb7 hd0
  refine wpAnyH_take (i := 5) (v := ?_) rfl (by kernel_rfl) (by kernel_rfl) (by kernel_rfl) (fun _ _ _ h => h) (Or.inl ⟨by rfl, ?_⟩) hS4 ?_
  rotate_left
  · intro u hu; (try dsimp only at hu); go_simp; try with_reducible rfl
  simp only [Act.put, List.getElem_toArray, List.getElem_cons_zero, List.getElem_cons_succ, List.setIfInBounds_toArray, List.set_cons_zero, List.set_cons_succ]
  refine wpAnyH_done (by kernel_rfl) ?_ _
  go_wp2_with fail
  go_ret
  exact ⟨⟨_, rfl, unhide HO7⟩, (unhide X7).bel⟩
end Go.Proofs.YtefagplbpbkpgaaDoor

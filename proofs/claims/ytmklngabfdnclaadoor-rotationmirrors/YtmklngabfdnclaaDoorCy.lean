/-
  How many rounds a function that is one to one has, and that a change of two places makes one more or one fewer. No conditions beyond each theorem's own.
-/
import Derived.Test.YtmklngabfdnclaaDoorFp
namespace Go.Proofs.YtmklngabfdnclaaDoor
open Go.RowKit
set_option linter.unusedVariables false
set_option maxRecDepth 20000

/-- two numbers change places -/
def sw (a b j : Nat) : Nat := if j = a then b else if j = b then a else j
theorem sw_a (a b : Nat) : sw a b a = b := by simp [sw]
theorem sw_b (a b : Nat) : sw a b b = a := by unfold sw; split <;> simp_all
theorem sw_o {a b j : Nat} (h1 : j ≠ a) (h2 : j ≠ b) : sw a b j = j := by simp [sw, h1, h2]
theorem sw_sw (a b j : Nat) : sw a b (sw a b j) = j := by
  by_cases h1 : j = a
  · rw [h1, sw_a, sw_b]
  · by_cases h2 : j = b
    · rw [h2, sw_b, sw_a]
    · rw [sw_o h1 h2, sw_o h1 h2]
theorem sw_lt {a b H j : Nat} (ha : a < H) (hb : b < H) (hj : j < H) : sw a b j < H := by
  unfold sw
  split
  · exact hb
  · split
    · exact ha
    · exact hj
/-- how many rounds -/
def cyc (N : Nat → Nat) (H : Nat) : Nat := ((List.range H).filter fun h => isLeast N H h).length
theorem cyc_faces (N : Nat → Nat) (H : Nat) : (facesF N H H).length = cyc N H := by simp [facesF, cyc]
theorem Pm.swap {N : Nat → Nat} {H a b : Nat} (p : Pm N H) (ha : a < H) (hb : b < H) : Pm (fun j => N (sw a b j)) H := by
  refine ⟨fun j hj => p.lt _ (sw_lt ha hb hj), fun i j hi hj h => ?_⟩
  have := p.inj _ _ (sw_lt ha hb hi) (sw_lt ha hb hj) h
  have h2 := congrArg (sw a b) this
  rwa [sw_sw, sw_sw] at h2
/-- a set that is closed holds the rounds of all that it has -/
theorem orb_in {N : Nat → Nat} {H h : Nat} {U : Nat → Prop} (hU : ∀ j, U j → U (N j)) (h0 : U h) : ∀ j ∈ orb N H h, U j := by
  intro j hj
  obtain ⟨t, ht, rfl⟩ := mem_orb.1 hj
  clear hj ht
  induction t with
  | zero => exact h0
  | succ t ih => exact hU _ ih
theorem Pm.orb_n {N : Nat → Nat} {H : Nat} (p : Pm N H) {h j : Nat} (hh : h < H) (hj : j ∈ orb N H h) : N j ∈ orb N H h := p.trans hh hj (p.orb_it (p.orb_lt hh j hj) 1)
theorem Pm.mem_self {N : Nat → Nat} {H : Nat} (p : Pm N H) {h : Nat} (hh : h < H) : h ∈ orb N H h := p.orb_it hh 0

section
variable {N : Nat → Nat} {H a b : Nat}

/-- along the other's round to its end -/
theorem merge_run (p : Pm N H) (ha : a < H) (hb : b < H) (hab : b ∉ orb N H a) : ∀ t, t ≤ pr N H b → it (fun j => N (sw a b j)) (t + 1) a = it N (t + 1) b := by
  have hpr := p.pr hb
  intro t
  induction t with
  | zero => intro _; show N (sw a b a) = N b; rw [sw_a]
  | succ t ih =>
    intro ht
    show N (sw a b (it (fun j => N (sw a b j)) (t + 1) a)) = N (it N (t + 1) b)
    rw [ih (by omega), sw_o]
    · intro e
      have h1 := p.orb_it hb (t + 1)
      rw [e] at h1
      exact hab (p.sym hb h1)
    · exact hpr.2.2 t (by omega)
theorem merge_b (p : Pm N H) (ha : a < H) (hb : b < H) (hab : b ∉ orb N H a) : b ∈ orb (fun j => N (sw a b j)) H a := by
  have h1 := merge_run p ha hb hab (pr N H b) (Nat.le_refl _)
  rw [(p.pr hb).2.1] at h1
  have h2 := (p.swap ha hb).orb_it ha (pr N H b + 1)
  rw [h1] at h2
  exact h2
theorem sw_comm (a b j : Nat) : sw a b j = sw b a j := by
  unfold sw
  split <;> split <;> simp_all
theorem swap_comm (N : Nat → Nat) (a b : Nat) : (fun j => N (sw a b j)) = fun j => N (sw b a j) := by funext j; rw [sw_comm]
/-- all of the other's round is in one's own then -/
theorem merge_all (p : Pm N H) (ha : a < H) (hb : b < H) (hab : b ∉ orb N H a) : ∀ j ∈ orb N H b, j ∈ orb (fun j => N (sw a b j)) H a := by
  intro j hj
  have hpr := p.pr hb
  obtain ⟨t, ht, rfl⟩ := mem_orb.1 hj
  cases t with
  | zero => exact merge_b p ha hb hab
  | succ t =>
    have h1 := merge_run p ha hb hab t (by omega)
    have h2 := (p.swap ha hb).orb_it ha (t + 1)
    rw [h1] at h2
    exact h2
theorem merge_orb (p : Pm N H) (ha : a < H) (hb : b < H) (hab : b ∉ orb N H a) {j : Nat} : j ∈ orb (fun j => N (sw a b j)) H a ↔ (j ∈ orb N H a ∨ j ∈ orb N H b) := by
  have p' := p.swap ha hb
  have hba : a ∉ orb N H b := fun h => hab (p.sym hb h)
  constructor
  · refine orb_in (U := fun j => j ∈ orb N H a ∨ j ∈ orb N H b) ?_ (.inl (p.mem_self ha)) j
    rintro j (h | h)
    · by_cases h1 : j = a
      · subst h1; show N (sw j b j) ∈ _ ∨ _; rw [sw_a]; exact .inr (p.orb_n hb (p.mem_self hb))
      · have h2 : j ≠ b := fun e => hab (e ▸ h)
        show N (sw a b j) ∈ _ ∨ _
        rw [sw_o h1 h2]
        exact .inl (p.orb_n ha h)
    · by_cases h1 : j = b
      · subst h1; show N (sw a j j) ∈ _ ∨ _; rw [sw_b]; exact .inl (p.orb_n ha (p.mem_self ha))
      · have h2 : j ≠ a := fun e => hba (e ▸ h)
        show N (sw a b j) ∈ _ ∨ _
        rw [sw_o h2 h1]
        exact .inr (p.orb_n hb h)
  · rintro (h | h)
    · have h1 := merge_all p hb ha hba j h
      rw [← swap_comm] at h1
      exact p'.trans ha (merge_b p ha hb hab) h1
    · exact merge_all p ha hb hab j h
/-- what is in neither round stays as it was -/
theorem merge_far (p : Pm N H) (ha : a < H) (hb : b < H) {h : Nat} (hh : h < H) (h1 : h ∉ orb N H a) (h2 : h ∉ orb N H b) {j : Nat} : j ∈ orb (fun j => N (sw a b j)) H h ↔ j ∈ orb N H h := by
  have p' := p.swap ha hb
  have key : ∀ t, it (fun j => N (sw a b j)) t h = it N t h := by
    intro t
    induction t with
    | zero => rfl
    | succ t ih =>
      show N (sw a b (it (fun j => N (sw a b j)) t h)) = N (it N t h)
      rw [ih, sw_o]
      · exact fun e => h1 (p.sym hh (by have := p.orb_it hh t; rwa [e] at this))
      · exact fun e => h2 (p.sym hh (by have := p.orb_it hh t; rwa [e] at this))
  constructor
  · intro hj
    obtain ⟨t, _, rfl⟩ := mem_orb.1 hj
    rw [key]
    exact p.orb_it hh t
  · intro hj
    obtain ⟨t, _, rfl⟩ := mem_orb.1 hj
    rw [← key]
    exact p'.orb_it hh t
/-- the least of a round -/
theorem Pm.least {N : Nat → Nat} {H : Nat} (p : Pm N H) {h : Nat} (hh : h < H) : ∃ l, l ∈ orb N H h ∧ isLeast N H l = true := by
  have : ∀ n h, h ≤ n → h < H → ∃ l, l ∈ orb N H h ∧ isLeast N H l = true := by
    intro n
    induction n with
    | zero =>
      intro h hn hh
      have : h = 0 := by omega
      subst this
      exact ⟨0, p.mem_self hh, isLeast_iff.2 fun j _ => by omega⟩
    | succ n ih =>
      intro h hn hh
      by_cases hl : isLeast N H h = true
      · exact ⟨h, p.mem_self hh, hl⟩
      · rw [isLeast_iff] at hl
        obtain ⟨j, hj⟩ := Classical.not_forall.1 hl
        obtain ⟨hj1, hj2⟩ := Classical.not_imp.1 hj
        obtain ⟨l, h1, h2⟩ := ih j (by omega) (p.orb_lt hh j hj1)
        exact ⟨l, p.trans hh hj1 h1, h2⟩
  exact this h h (Nat.le_refl _) hh
theorem filter_one {q r : Nat → Bool} {m : Nat} : ∀ {l : List Nat}, l.Nodup → m ∈ l → r m = true → q m = false → (∀ h ∈ l, h ≠ m → q h = r h) → (l.filter q).length + 1 = (l.filter r).length := by
  intro l
  induction l with
  | nil => intro _ h; simp at h
  | cons c t ih =>
    intro hn hm h1 h2 h3
    rw [List.nodup_cons] at hn
    by_cases hc : c = m
    · subst hc
      have : t.filter q = t.filter r := List.filter_congr fun h hh => h3 h (by simp [hh]) (fun e => hn.1 (e ▸ hh))
      rw [List.filter_cons, List.filter_cons, h1, h2, this]
      simp
    · have hm' : m ∈ t := by
        rcases List.mem_cons.1 hm with h | h
        · exact absurd h.symm hc
        · exact h
      have := ih hn.2 hm' h1 h2 fun h hh => h3 h (by simp [hh])
      have hcq := h3 c (by simp) hc
      rw [List.filter_cons, List.filter_cons, hcq]
      cases r c <;> simp <;> omega
theorem cyc_merge (p : Pm N H) (ha : a < H) (hb : b < H) (hab : b ∉ orb N H a) : cyc (fun j => N (sw a b j)) H + 1 = cyc N H := by
  have p' := p.swap ha hb
  obtain ⟨la, hla, hlla⟩ := p.least ha
  obtain ⟨lb, hlb, hllb⟩ := p.least hb
  have hlaH := p.orb_lt ha la hla
  have hlbH := p.orb_lt hb lb hlb
  have hne : la ≠ lb := fun e => by
    subst e
    exact hab (p.trans ha hla (p.sym hb hlb))
  have hba : a ∉ orb N H b := fun h => hab (p.sym hb h)
  -- the round of anything in either
  have hU : ∀ h, (h ∈ orb N H a ∨ h ∈ orb N H b) → ∀ j, (j ∈ orb (fun j => N (sw a b j)) H h ↔ (j ∈ orb N H a ∨ j ∈ orb N H b)) := by
    intro h hh j
    have h1 := (merge_orb p ha hb hab).2 hh
    have hH := p'.orb_lt ha h h1
    constructor
    · intro h2
      exact (merge_orb p ha hb hab).1 (p'.trans ha h1 h2)
    · intro h2
      exact p'.trans hH (p'.sym ha h1) ((merge_orb p ha hb hab).2 h2)
  have lea : ∀ h, h ∈ orb N H a → la ≤ h := fun h hh => isLeast_iff.1 hlla h (p.trans hlaH (p.sym ha hla) hh)
  have leb : ∀ h, h ∈ orb N H b → lb ≤ h := fun h hh => isLeast_iff.1 hllb h (p.trans hlbH (p.sym hb hlb) hh)
  have main : ∀ m s, ((m = la ∧ s = lb) ∨ (m = lb ∧ s = la)) → s < m → cyc (fun j => N (sw a b j)) H + 1 = cyc N H := by
    intro m s hms hsm
    have hmU : m ∈ orb N H a ∨ m ∈ orb N H b := by rcases hms with ⟨rfl, _⟩ | ⟨rfl, _⟩; exact .inl hla; exact .inr hlb
    have hsU : s ∈ orb N H a ∨ s ∈ orb N H b := by rcases hms with ⟨_, rfl⟩ | ⟨_, rfl⟩; exact .inr hlb; exact .inl hla
    have hml : isLeast N H m = true := by rcases hms with ⟨rfl, _⟩ | ⟨rfl, _⟩; exact hlla; exact hllb
    have hmH : m < H := by rcases hms with ⟨rfl, _⟩ | ⟨rfl, _⟩; exact hlaH; exact hlbH
    refine filter_one (m := m) List.nodup_range (by simpa using hmH) hml ?_ ?_
    · cases hc : isLeast (fun j => N (sw a b j)) H m with
      | false => rfl
      | true =>
        have := isLeast_iff.1 hc s ((hU m hmU s).2 hsU)
        omega
    · intro h hh hhm
      have hhH : h < H := by simpa using hh
      rw [Bool.eq_iff_iff, isLeast_iff, isLeast_iff]
      by_cases h1 : h ∈ orb N H a ∨ h ∈ orb N H b
      · constructor
        · intro h2 j hj
          refine h2 j ((hU h h1 j).2 ?_)
          rcases h1 with h1 | h1
          · exact .inl (p.trans ha h1 hj)
          · exact .inr (p.trans hb h1 hj)
        · intro h2 j hj
          -- h is the least of its own round: it is la or lb, so s
          have hhs : h = s := by
            rcases h1 with h1 | h1
            · have e1 := h2 la (p.trans hhH (p.sym ha h1) hla)
              have e2 := lea h h1
              rcases hms with ⟨rfl, rfl⟩ | ⟨rfl, rfl⟩ <;> omega
            · have e1 := h2 lb (p.trans hhH (p.sym hb h1) hlb)
              have e2 := leb h h1
              rcases hms with ⟨rfl, rfl⟩ | ⟨rfl, rfl⟩ <;> omega
          subst hhs
          rcases (hU h h1 j).1 hj with h3 | h3
          · have := lea j h3
            rcases hms with ⟨rfl, rfl⟩ | ⟨rfl, rfl⟩ <;> omega
          · have := leb j h3
            rcases hms with ⟨rfl, rfl⟩ | ⟨rfl, rfl⟩ <;> omega
      · have h2 : h ∉ orb N H a := fun e => h1 (.inl e)
        have h3 : h ∉ orb N H b := fun e => h1 (.inr e)
        constructor
        · intro h4 j hj
          exact h4 j ((merge_far p ha hb hhH h2 h3).2 hj)
        · intro h4 j hj
          exact h4 j ((merge_far p ha hb hhH h2 h3).1 hj)
  rcases Nat.lt_or_ge la lb with h | h
  · exact main lb la (.inr ⟨rfl, rfl⟩) h
  · exact main la lb (.inl ⟨rfl, rfl⟩) (by omega)
/-- two of one round are parted -/
theorem split_out (p : Pm N H) (ha : a < H) (hb : b < H) (hne : a ≠ b) (hab : b ∈ orb N H a) : b ∉ orb (fun j => N (sw a b j)) H a := by
  obtain ⟨h1, h2, h3⟩ := p.pr ha
  obtain ⟨s, hs, hsb⟩ := mem_orb.1 hab
  have hs0 : 0 < s := Nat.pos_of_ne_zero fun e => by subst e; exact hne hsb
  intro hc
  have := orb_in (N := fun j => N (sw a b j)) (U := fun j => ∃ t, s < t ∧ t ≤ pr N H a + 1 ∧ it N t a = j) (by
    rintro j ⟨t, ht1, ht2, rfl⟩
    by_cases hte : t = pr N H a + 1
    · subst hte
      refine ⟨s + 1, by omega, by omega, ?_⟩
      rw [h2]
      show N (it N s a) = N (sw a b a)
      rw [sw_a, hsb]
    · refine ⟨t + 1, by omega, by omega, ?_⟩
      show N (it N t a) = N (sw a b (it N t a))
      rw [sw_o]
      · intro e
        refine h3 (t - 1) (by omega) ?_
        rw [show t - 1 + 1 = t by omega]
        exact e
      · intro e
        rw [← hsb] at e
        refine h3 (t - s - 1) (by omega) ?_
        rw [show t - s - 1 + 1 = t - s by omega]
        exact p.back ha (by omega) e.symm) ⟨pr N H a + 1, by omega, Nat.le_refl _, h2⟩ b hc
  obtain ⟨t, ht1, ht2, hte⟩ := this
  rw [← hsb] at hte
  by_cases htp : t = pr N H a + 1
  · subst htp
    rw [h2] at hte
    exact hne (hte.trans hsb)
  · refine h3 (t - s - 1) (by omega) ?_
    rw [show t - s - 1 + 1 = t - s by omega]
    exact p.back ha (by omega) hte.symm
theorem cyc_split (p : Pm N H) (ha : a < H) (hb : b < H) (hne : a ≠ b) (hab : b ∈ orb N H a) : cyc (fun j => N (sw a b j)) H = cyc N H + 1 := by
  have h1 := cyc_merge (p.swap ha hb) ha hb (split_out p ha hb hne hab)
  have h2 : (fun j => (fun j => N (sw a b j)) (sw a b j)) = N := by funext j; show N (sw a b (sw a b j)) = N j; rw [sw_sw]
  rw [h2] at h1
  exact h1.symm
/-- one more, or one fewer -/
theorem cyc_swap (p : Pm N H) (ha : a < H) (hb : b < H) (hne : a ≠ b) : cyc (fun j => N (sw a b j)) H = cyc N H + 1 ∨ cyc (fun j => N (sw a b j)) H + 1 = cyc N H := by
  by_cases hab : b ∈ orb N H a
  · exact .inl (cyc_split p ha hb hne hab)
  · exact .inr (cyc_merge p ha hb hab)
end
end Go.Proofs.YtmklngabfdnclaaDoor


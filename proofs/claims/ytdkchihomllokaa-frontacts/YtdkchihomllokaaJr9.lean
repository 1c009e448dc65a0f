/-
  The document's has and Ready. Conditions: the document's front lies in memory, and stands, as told.
-/
import Derived.Test.YtdkchihomllokaaLw9
import Derived.Test.YtdkchihomllokaaSk9
import Derived.Maps.AppendAt
namespace Go.Proofs.Ytdkchihomllokaa
open Go.RowKit
set_option linter.unusedVariables false
set_option maxRecDepth 20000

set_option maxHeartbeats 1000000 in
theorem rhas_any (w : World) (a : Option Addr) (n c : Nat) (xs : List Int) (x : Int) (h : Ns w a n xs) :
    Calls Try.prog 39 #[.slice a n c, .int .i64 x] w fun e w' => e = .returned (.bool (decide (x ∈ xs))) ∧ w' = w := by
  obtain ⟨hl, hn, hc⟩ := h
  have HC := hide hc
  have HL := hide hl
  clear hc hl
  go_enter Try.func39, Try.ntmps39
  go_wp2_with fail
  go_loopw [5] (fun i wr => ∃ k : Nat, i = .int .i64 k ∧ k ≤ n ∧ wr = w ∧ Hid (∀ j, j < k → xs.getD j 0 ≠ x)) (fun i wr => n - (intOf i).toNat)
  case atStart => exact ⟨0, rfl, by omega, rfl, fun j hj => by omega⟩
  case round =>
    obtain ⟨k, rfl, hk, rfl, HA⟩ := hrel
    by_cases hlt : k < n
    · obtain ⟨g, off, ha, hg, d0⟩ := unhide HC k hlt
      subst ha
      obtain ⟨z, hz⟩ : ∃ z, xs.getD k 0 = z := ⟨_, rfl⟩
      rw [hz] at d0
      have HZ := hide hz
      clear hz
      have hkn : (k : Int) < (n : Int) := by omega
      have hwk : IntKind.i64.wrap ((k : Int) + 1) = (k : Int) + 1 := by rw [IntKind.wrap_i64]; omega
      by_cases hx : z = x
      · have hzx : (z == x) = true := by simp [hx]
        have HX := hide hx
        have HLT := hide hlt
        clear hx
        go_wp2_with fail
        go_ret
        refine ⟨ret_b ?_, rfl⟩
        symm
        rw [decide_eq_true_eq, ← unhide HX, ← unhide HZ, List.getD_eq_getElem?_getD, List.getElem?_eq_getElem (show k < xs.length by rw [unhide HL]; exact unhide HLT)]
        exact List.getElem_mem _
      · have hzx : (z == x) = false := by simp [hx]
        have HX := hide hx
        clear hx
        go_wp2_with fail
        go_roundw
        case rel =>
          refine ⟨k + 1, by go_num, by omega, by trivial, fun j hj => ?_⟩
          by_cases hjk : j < k
          · exact unhide HA j hjk
          · obtain rfl : j = k := by omega
            rw [unhide HZ]; exact unhide HX
        case measure => simp [intOf]; omega
    · obtain rfl : k = n := by omega
      go_wp2_with fail
      go_ret
      refine ⟨ret_b ?_, rfl⟩
      symm
      rw [decide_eq_false_iff_not]
      intro hm
      obtain ⟨j, hj, he⟩ := List.mem_iff_getElem.1 hm
      refine unhide HA j (by rw [unhide HL] at hj; exact hj) ?_
      rw [List.getD_eq_getElem?_getD, List.getElem?_eq_getElem hj]
      exact he

/-- the document's front in memory -/
structure Rb (w : World) (rb V : Nat) (a : Option Addr) (cap : Nat) (es : List (Nat × Nat)) (ra : Option Addr) (rc : Nat) (row : List It) (pa : Option Addr) (pc : Nat) (pl : List Nat) : Prop where
  box : w.heap[rb]? = some (.cells #[.int .i64 (V : Nat), .slice a es.length cap, .slice ra row.length rc, .slice pa pl.length pc] 36 (0, 0))
  edges : Es 0 w a es.length (toI es)
  items : Is w ra row
  pls : Ns w pa pl.length (toIs pl)
  rno : ra = none → row.length = 0 ∧ rc = 0
  pno : pa = none → pl.length = 0 ∧ pc = 0
  rcap : row.length ≤ rc
  ne1 : 0 < es.length → ∀ g off, a = some ⟨g, off, none⟩ → g ≠ rb
  ne2 : ∀ g off, ra = some ⟨g, off, none⟩ → g ≠ rb
  ne3 : ∀ g off, pa = some ⟨g, off, none⟩ → g ≠ rb
theorem Rb.below {w w' : World} {rb V : Nat} {a : Option Addr} {cap : Nat} {es : List (Nat × Nat)} {ra : Option Addr} {rc : Nat} {row : List It} {pa : Option Addr} {pc : Nat} {pl : List Nat} (h : Rb w rb V a cap es ra rc row pa pc pl) (hb : Below w.heap.size w w') : Rb w' rb V a cap es ra rc row pa pc pl :=
  ⟨by rw [hb.block _ (Array.getElem?_eq_some_iff.1 h.box).1]; exact h.box, h.edges.below hb, h.items.below hb, h.pls.below hb, h.rno, h.pno, h.rcap, h.ne1, h.ne2, h.ne3⟩
theorem Rb.cells {w : World} {rb V : Nat} {a : Option Addr} {cap : Nat} {es : List (Nat × Nat)} {ra : Option Addr} {rc : Nat} {row : List It} {pa : Option Addr} {pc : Nat} {pl : List Nat} (h : Rb w rb V a cap es ra rc row pa pc pl) :
    w.cell? ⟨rb, 0, none⟩ = some (.int .i64 (V : Nat)) ∧ w.cell? ⟨rb, 1, none⟩ = some (.slice a es.length cap) ∧ w.cell? ⟨rb, 2, none⟩ = some (.slice ra row.length rc) ∧ w.cell? ⟨rb, 3, none⟩ = some (.slice pa pl.length pc) ∧ rb < w.heap.size := by
  have h1 := h.box
  refine ⟨by simp [World.cell?, h1], by simp [World.cell?, h1], by simp [World.cell?, h1], by simp [World.cell?, h1], (Array.getElem?_eq_some_iff.1 h1).1⟩

/-- edges that are met, one after another -/
def scS (y need : Nat) : Option Nat → It → Option Nat
  | none, _ => none
  | some met, t => if t.2.2 = (y : Int) then some (met + 1) else if 0 ≤ t.1 ∧ 0 < met ∧ met < need then none else some met
def scF (y need : Nat) (row : List It) (k : Nat) : Option Nat := (row.take k).foldl (scS y need) (some 0)
theorem scF_succ (y need : Nat) (row : List It) {k : Nat} (hk : k < row.length) : scF y need row (k + 1) = scS y need (scF y need row k) (row.getD k (0, 0, 0)) := by
  unfold scF
  rw [List.take_add_one, List.getElem?_eq_getElem hk, List.foldl_append, gd hk]
  rfl
theorem scS_le {y need met : Nat} {t : It} {m : Nat} (h : scS y need (some met) t = some m) : m ≤ met + 1 := by
  unfold scS at h
  simp only at h
  split at h
  · cases h; omega
  · split at h
    · cases h
    · cases h; omega
theorem scF_le (y need : Nat) (row : List It) : ∀ k m, k ≤ row.length → scF y need row k = some m → m ≤ k
  | 0, m, _, h => by simp [scF] at h; omega
  | k + 1, m, hk, h => by
    rw [scF_succ y need row (by omega)] at h
    cases hq : scF y need row k with
    | none => rw [hq] at h; cases h
    | some met =>
      rw [hq] at h
      have := scF_le y need row k met (by omega) hq
      have := scS_le h
      omega
theorem scF_none (y need : Nat) (row : List It) {k : Nat} (hk : k < row.length) (h : scF y need row (k + 1) = none) : ∀ n, k + 1 ≤ n → n ≤ row.length → scF y need row n = none
  | 0, h1, _ => by omega
  | n + 1, h1, h2 => by
    by_cases he : n = k
    · subst he; exact h
    · rw [scF_succ y need row (by omega), scF_none y need row hk h n (by omega) (by omega)]
      rfl
/-- of an item: it is an edge to y, if it goes to y -/
theorem Inv.head_e {V : Nat} {es : List (Nat × Nat)} {src : Nat} {row : List It} {pl : List Nat} (h : Inv V es src row pl) {t : It} (ht : t ∈ row) {y : Nat} : (t.2.2 = (y : Int) ↔ pE y t = true) ∧ (t.1 = -1 ∨ 0 ≤ t.1) := by
  rcases h.item t ht with ⟨h1, h2⟩ | ⟨i, hi, rfl, _⟩
  · refine ⟨⟨fun e => by rw [h2] at e; omega, fun e => by have := (pE_iff.1 e).1; exact absurd h1 this⟩, .inl h1⟩
  · refine ⟨⟨fun e => pE_iff.2 ⟨by unfold itemAt; simp; try omega, e⟩, fun e => (pE_iff.1 e).2⟩, .inr (by unfold itemAt; simp)⟩
/-- what has been met so far -/
def Met (y need : Nat) (l : List It) (met : Nat) : Prop :=
  met = l.countP (pE y) ∧ (met ≤ need → (met = 0 ∨ ∃ A Y C, l = A ++ (Y ++ C) ∧ (∀ t ∈ A, pE y t = false) ∧ (∀ t ∈ C, pE y t = false) ∧ (∀ t ∈ Y, t.1 = -1 ∨ t.2.2 = (y : Int)) ∧ (∃ t Y', Y = t :: Y' ∧ pE y t = true) ∧ (∃ t Y', Y = Y' ++ [t] ∧ pE y t = true) ∧ (met < need → ∀ t ∈ C, t.1 = -1)))
theorem Met.step {y need : Nat} {l : List It} {met m : Nat} {t : It} (h : Met y need l met) (ht : (t.2.2 = (y : Int) ↔ pE y t = true) ∧ (t.1 = -1 ∨ 0 ≤ t.1)) (hs : scS y need (some met) t = some m) : Met y need (l ++ [t]) m := by
  obtain ⟨h1, h2⟩ := h
  unfold scS at hs
  simp only at hs
  by_cases hy : t.2.2 = (y : Int)
  · rw [if_pos hy] at hs
    cases hs
    have hp := ht.1.1 hy
    refine ⟨by rw [List.countP_append, ← h1]; simp [hp], fun hle => .inr ?_⟩
    rcases h2 (by omega) with h0 | ⟨A, Y, C, rfl, hA, hC, hm, ⟨tf, Yf, hYf, hpf⟩, hl, hloose⟩
    · refine ⟨l, [t], [], by simp, fun t' ht' => ?_, by simp, ?_, ⟨t, [], rfl, hp⟩, ⟨t, [], rfl, hp⟩, by simp⟩
      · have := List.countP_eq_zero.1 (h1.symm.trans h0) t' ht'
        simpa using this
      · intro t' ht'
        rw [List.mem_singleton.1 ht']
        exact .inr hy
    · refine ⟨A, Y ++ (C ++ [t]), [], by simp, hA, by simp, ?_, ⟨tf, Yf ++ (C ++ [t]), by rw [hYf]; simp, hpf⟩, ⟨t, Y ++ C, by simp, hp⟩, by simp⟩
      intro t' ht'
      rcases List.mem_append.1 ht' with h | h
      · exact hm t' h
      rcases List.mem_append.1 h with h | h
      · exact .inl (hloose (by omega) t' h)
      · rw [List.mem_singleton.1 h]; exact .inr hy
  · rw [if_neg hy] at hs
    have hp : pE y t = false := by
      cases hq : pE y t with
      | false => rfl
      | true => exact absurd (ht.1.2 hq) hy
    by_cases hc : 0 ≤ t.1 ∧ 0 < met ∧ met < need
    · rw [if_pos hc] at hs; cases hs
    · rw [if_neg hc] at hs
      cases hs
      refine ⟨by rw [List.countP_append, ← h1]; simp [hp], fun hle => ?_⟩
      rcases h2 hle with h0 | ⟨A, Y, C, rfl, hA, hC, hm, hf, hl, hloose⟩
      · exact .inl h0
      · by_cases h0 : met = 0
        · exact .inl h0
        refine .inr ⟨A, Y, C ++ [t], by simp, hA, fun t' ht' => ?_, hm, hf, hl, fun hlt t' ht' => ?_⟩
        · rcases List.mem_append.1 ht' with h | h
          · exact hC t' h
          · rw [List.mem_singleton.1 h]; exact hp
        · rcases List.mem_append.1 ht' with h | h
          · exact hloose hlt t' h
          · rw [List.mem_singleton.1 h]
            rcases ht.2 with h3 | h3
            · exact h3
            · exact absurd ⟨h3, by omega, hlt⟩ hc
theorem Met.of {V : Nat} {es : List (Nat × Nat)} {src : Nat} {row : List It} {pl : List Nat} (hI : Inv V es src row pl) (y need : Nat) : ∀ k m, k ≤ row.length → scF y need row k = some m → Met y need (row.take k) m
  | 0, m, _, h => by
    simp [scF] at h
    subst h
    exact ⟨by simp, fun _ => .inl rfl⟩
  | k + 1, m, hk, h => by
    rw [scF_succ y need row (by omega)] at h
    cases hq : scF y need row k with
    | none => rw [hq] at h; cases h
    | some met =>
      rw [hq] at h
      have := (Met.of hI y need k met (by omega) hq).step (hI.head_e (gd_mem (show k < row.length by omega))) h
      rw [List.take_add_one, List.getElem?_eq_getElem (show k < row.length by omega)]
      rw [gd (show k < row.length by omega)] at this
      exact this
/-- the document's Ready is the program's -/
theorem scan_ready {V : Nat} {es : List (Nat × Nat)} {src : Nat} {row : List It} {pl : List Nat} (hI : Inv V es src row pl) {y : Nat} (hV : y < V) (h0 : 0 < (Pl.ins es y).length) :
    scF y (Pl.ins es y).length row row.length = some (Pl.ins es y).length ↔ ∃ A Y C, Rdy V es row y A Y C := by
  constructor
  · intro h
    obtain ⟨h1, h2⟩ := Met.of hI y _ row.length _ (Nat.le_refl _) h
    rw [List.take_length] at h1 h2
    rcases h2 (Nat.le_refl _) with h3 | ⟨A, Y, C, he, hA, hC, hm, hf, hl, _⟩
    · omega
    · refine ⟨A, Y, C, he, hA, hC, hm, hf, hl, ?_, hV⟩
      rw [h1]
      conv => rhs; rw [he]
      rw [List.countP_append, List.countP_append, cnt0 hA, cnt0 hC]
      omega
  · rintro ⟨A, Y, C, hr⟩
    have hA : ∀ (l : List It) (m : Nat), (∀ t ∈ l, t ∈ row) → (∀ t ∈ l, pE y t = false) → (m = 0 ∨ m = (Pl.ins es y).length) → l.foldl (scS y (Pl.ins es y).length) (some m) = some m := by
      intro l
      induction l with
      | nil => intro m _ _ _; rfl
      | cons t l ih =>
        intro m hm hp h3
        have hs : scS y (Pl.ins es y).length (some m) t = some m := by
          unfold scS
          simp only
          rw [if_neg (fun e => by have := (hI.head_e (hm t (by simp))).1.1 e; rw [hp t (by simp)] at this; cases this), if_neg (by omega)]
        rw [List.foldl_cons, hs]
        exact ih m (fun t' h => hm t' (by simp [h])) (fun t' h => hp t' (by simp [h])) h3
    have hY : ∀ (l : List It) (m : Nat), (∀ t ∈ l, t ∈ row) → (∀ t ∈ l, t.1 = -1 ∨ t.2.2 = (y : Int)) → l.foldl (scS y (Pl.ins es y).length) (some m) = some (m + l.countP (pE y)) := by
      intro l
      induction l with
      | nil => intro m _ _; rfl
      | cons t l ih =>
        intro m hm hp
        rw [List.foldl_cons, List.countP_cons]
        by_cases hy : t.2.2 = (y : Int)
        · have hpt := (hI.head_e (hm t (by simp))).1.1 hy
          have hs : scS y (Pl.ins es y).length (some m) t = some (m + 1) := by unfold scS; simp only; rw [if_pos hy]
          rw [hs, ih (m + 1) (fun t' h => hm t' (by simp [h])) (fun t' h => hp t' (by simp [h])), if_pos hpt]
          congr 1
          omega
        · have hpt : ¬ pE y t = true := fun h => hy ((hI.head_e (hm t (by simp))).1.2 h)
          have h1 : t.1 = -1 := by
            rcases hp t (by simp) with h | h
            · exact h
            · exact absurd h hy
          have hs : scS y (Pl.ins es y).length (some m) t = some m := by unfold scS; simp only; rw [if_neg hy, if_neg (by omega)]
          rw [hs, ih m (fun t' h => hm t' (by simp [h])) (fun t' h => hp t' (by simp [h])), if_neg hpt, Nat.add_zero]
    unfold scF
    rw [List.take_length]
    have e := hr.eq
    conv => lhs; rw [e]
    rw [List.foldl_append, List.foldl_append, hA A 0 (fun t h => by rw [e]; simp [h]) hr.outA (.inl rfl), hY Y 0 (fun t h => by rw [e]; simp [h]) hr.mid, Nat.zero_add, hr.cnt]
    exact hA C _ (fun t h => by rw [e]; simp [h]) hr.outC (.inr rfl)

set_option maxHeartbeats 8000000 in
theorem refReady_any (w : World) (rb V : Nat) (a : Option Addr) (cap : Nat) (es : List (Nat × Nat)) (ra : Option Addr) (rc : Nat) (row : List It) (pa : Option Addr) (pc : Nat) (pl : List Nat) (src : Nat) (hR : Rb w rb V a cap es ra rc row pa pc pl) (hI : Inv V es src row pl) (hp : Plain V es) (hsrc : bare (Pl.ins es) V = [src]) (x : Int) :
    Calls Try.prog 18 #[.pointer (some ⟨rb, 0, none⟩), .int .i64 x] w fun e w' => Told (∃ y : Nat, x = (y : Int) ∧ ReadyAt V es src row pl y) e ∧ Below w.heap.size w w' := by
  obtain ⟨c0, c1, c2, c3, hrb⟩ := hR.cells
  have hrV : ∀ y, ReadyAt V es src row pl y → y < V := by
    rintro y (⟨_, rfl⟩ | ⟨_, A, Y, C, hr⟩)
    · exact (bare_src hsrc).1
    · exact hr.lt
  have hrP : ∀ y, ReadyAt V es src row pl y → y ∉ pl := by
    rintro y (⟨rfl, _⟩ | ⟨_, A, Y, C, hr⟩)
    · simp
    · exact (hI.tails hr).2
  by_cases hx0 : x < 0
  · have hno : ¬ ∃ y : Nat, x = (y : Int) ∧ ReadyAt V es src row pl y := by rintro ⟨y, rfl, _⟩; omega
    have HNO := hide hno
    clear hno hR hrV hrP
    go_enter Try.func18, Try.ntmps18
    go_wp2_with fail
    go_ret
    exact ⟨Told.no (unhide HNO), Below.refl _ _⟩
  obtain ⟨y, rfl⟩ : ∃ y : Nat, x = (y : Int) := ⟨x.toNat, by omega⟩
  by_cases hyV : V ≤ y
  · have hno : ¬ ∃ y' : Nat, (y : Int) = (y' : Int) ∧ ReadyAt V es src row pl y' := by
      rintro ⟨y', he, hr⟩
      have := hrV y' hr
      omega
    have HNO := hide hno
    have hVy : (V : Int) ≤ (y : Int) := by omega
    clear hno hR hrV hrP
    go_enter Try.func18, Try.ntmps18
    go_wp2_with fail
    go_ret
    exact ⟨Told.no (unhide HNO), Below.refl _ _⟩
  have hVy : ¬ (V : Int) ≤ (y : Int) := by omega
  have CH := hide (rhas_any w pa pl.length pc (toIs pl) (y : Nat) hR.pls)
  have hmem : (decide ((y : Int) ∈ toIs pl)) = decide (y ∈ pl) := by
    rw [decide_eq_decide]
    unfold toIs
    constructor
    · intro h
      obtain ⟨z, hz, he⟩ := List.mem_map.1 h
      obtain rfl : z = y := by omega
      exact hz
    · intro h
      exact List.mem_map.2 ⟨y, h, rfl⟩
  rw [hmem] at CH
  obtain ⟨pn, hpn⟩ : ∃ pn, pl.length = pn := ⟨_, rfl⟩
  rw [hpn] at c3 CH
  by_cases hyp : y ∈ pl
  · rw [decide_eq_true hyp] at CH
    have hno : ¬ ∃ y' : Nat, (y : Int) = (y' : Int) ∧ ReadyAt V es src row pl y' := by
      rintro ⟨y', he, hr⟩
      obtain rfl : y' = y := by omega
      exact hrP y' hr hyp
    have HNO := hide hno
    clear hno hR hrV hrP hmem hpn hyp
    go_enter Try.func18, Try.ntmps18
    go_wp2_with fail
    refine (unhide CH).mono ?_
    rintro e w1 ⟨rfl, rfl⟩
    go_wp2_with fail
    go_ret
    exact ⟨Told.no (unhide HNO), Below.refl _ _⟩
  rw [decide_eq_false hyp] at CH
  have CE := hide (refEnds_any w V a cap es hR.edges hp.n128 (y : Nat) false)
  rw [ends_in] at CE
  have HR := hide hR
  have HI := hide hI
  obtain ⟨m, hm⟩ : ∃ m, es.length = m := ⟨_, rfl⟩
  rw [hm] at c1 CE
  obtain ⟨nd, hnd⟩ : ∃ nd, (Pl.ins es y).length = nd := ⟨_, rfl⟩
  have hnd128 : nd ≤ 128 := by rw [← hnd]; exact Nat.le_trans (Pl.sel_len _ _ _) hp.n128
  rw [hnd] at CE
  obtain ⟨n, hn⟩ : ∃ n, row.length = n := ⟨_, rfl⟩
  have hn400 : n ≤ 400 := by rw [← hn]; have := hI.rlen; have := hI.plen; have := hp.n128; have := hp.v64; omega
  rw [hn] at c2
  have HN := hide hn
  -- what it should be
  have hspec : (nd = 0 → ∃ y' : Nat, (y : Int) = (y' : Int) ∧ ReadyAt V es src row pl y') ∧ (0 < nd → ((∃ y' : Nat, (y : Int) = (y' : Int) ∧ ReadyAt V es src row pl y') ↔ scF y nd row n = some nd)) := by
    constructor
    · intro h0
      refine ⟨y, rfl, .inl ?_⟩
      have hin : y ∈ bare (Pl.ins es) V := by
        unfold bare
        exact List.mem_filter.2 ⟨List.mem_range.2 (by omega), by rw [List.length_eq_zero_iff.1 (hnd.trans h0)]; rfl⟩
      rw [hsrc] at hin
      have hys : y = src := by simpa using hin
      refine ⟨?_, hys⟩
      by_cases hpl : pl = []
      · exact hpl
      · exact absurd (hys ▸ (hI.e1 hpl).2) hyp
    · intro h0
      rw [← hnd, ← hn]
      rw [scan_ready hI (show y < V by omega) (by omega)]
      constructor
      · rintro ⟨y', he, hr⟩
        obtain rfl : y' = y := by omega
        rcases hr with ⟨_, rfl⟩ | ⟨_, hr⟩
        · rw [(bare_src hsrc).2] at hnd; simp at hnd; omega
        · exact hr
      · intro hr
        refine ⟨y, rfl, .inr ⟨fun e => ?_, hr⟩⟩
        obtain ⟨A, Y, C, hr⟩ := hr
        obtain ⟨t, Z, hZ, _⟩ := hr.fst
        have := hr.eq
        rw [hI.e0 e, hZ] at this
        simp at this
  have HSP := hide hspec
  clear hR hI hrV hrP hmem hpn hyp hm hnd hn hspec hsrc
  go_enter Try.func18, Try.ntmps18
  go_wp2_with fail
  refine (unhide CH).mono ?_
  rintro e w1 ⟨rfl, hw1⟩
  subst hw1
  go_wp2_with fail
  refine (unhide CE).mono ?_
  rintro e w2 ⟨⟨v, rfl, ho⟩, hb2⟩
  obtain ⟨va, vc, rfl⟩ := own_shape ho
  have HB2 := hide hb2
  have HR2 := hide ((unhide HR).below hb2)
  obtain ⟨d0, d1, d2, d3, _⟩ := ((unhide HR).below hb2).cells
  rw [unhide HN] at d2
  clear CH CE ho hb2 c0 c1 c2 c3 d0 d1 d3
  by_cases h0 : nd = 0
  · have hn0 : ((nd : Int) == 0) = true := by simp [h0]
    have H0 := hide h0
    clear h0
    go_wp2_with fail
    go_ret
    exact ⟨Told.yes ((unhide HSP).1 (unhide H0)), unhide HB2⟩
  have hn0 : ((nd : Int) == 0) = false := by rw [beq_eq_false_iff_ne]; omega
  have H0 := hide ((unhide HSP).2 (by omega))
  clear HSP
  go_wp2_with fail
  go_loopw [6, 7] (fun q i wr => ∃ k met : Nat, i = .int .i64 k ∧ q = .int .i64 met ∧ k ≤ n ∧ met ≤ k ∧ wr = w2 ∧ Hid (scF y nd row k = some met)) (fun q i wr => n - (intOf i).toNat)
  case atStart => exact ⟨0, 0, rfl, rfl, by omega, by omega, rfl, rfl⟩
  case round =>
    obtain ⟨k, met, rfl, rfl, hk, hmk, rfl, HSC⟩ := hrel
    by_cases hlt : k < n
    · obtain ⟨g, off, ha, hg, e0, e1, e2⟩ := (unhide HR2).items.at (show k < row.length by rw [unhide HN]; exact hlt)
      have HS1 := hide (scF_succ y nd row (show k < row.length by rw [unhide HN]; exact hlt))
      generalize row.getD k (0, 0, 0) = it at e0 e1 e2 HS1
      obtain ⟨ie, it', ih⟩ := it
      simp only at e0 e1 e2
      rw [unhide HSC] at HS1
      subst ha
      have hkn : (k : Int) < (n : Int) := by omega
      have hwk : IntKind.i64.wrap ((k : Int) + 1) = (k : Int) + 1 := by rw [IntKind.wrap_i64]; omega
      have hwm : IntKind.i64.wrap ((met : Int) + 1) = (met : Int) + 1 := by rw [IntKind.wrap_i64]; omega
      by_cases hh : ih = (y : Int)
      · have hhb : (ih == (y : Int)) = true := by simp [hh]
        have HS2 := hide (show scF y nd row (k + 1) = some (met + 1) by rw [unhide HS1]; unfold scS; simp only; rw [if_pos hh])
        clear hh HS1
        go_wp2_with fail
        go_roundw
        case rel => exact ⟨k + 1, met + 1, by go_num, by go_num, by omega, by omega, by trivial, HS2⟩
        case measure => simp [intOf]; omega
      · have hhb : (ih == (y : Int)) = false := by simp [hh]
        by_cases hc : 0 ≤ ie ∧ 0 < met ∧ met < nd
        · have HS2 := hide (show scF y nd row (k + 1) = none by rw [unhide HS1]; unfold scS; simp only; rw [if_neg hh, if_pos hc])
          have hc1 : (0 : Int) ≤ ie := hc.1
          have hc2 : (0 : Int) < (met : Int) := by omega
          have hc3 : (met : Int) < (nd : Int) := by omega
          have HLT := hide hlt
          clear hh hc HS1
          go_wp2_with fail
          go_ret
          refine ⟨Told.no fun h => ?_, unhide HB2⟩
          have h1 := (unhide H0).1 h
          have h2 := scF_none y nd row (by rw [unhide HN]; exact unhide HLT) (unhide HS2) n (by have := unhide HLT; omega) (by rw [unhide HN]; exact Nat.le_refl _)
          rw [h1] at h2
          cases h2
        · have HS2 := hide (show scF y nd row (k + 1) = some met by rw [unhide HS1]; unfold scS; simp only; rw [if_neg hh, if_neg hc])
          clear hh HS1
          by_cases hc1 : (0 : Int) ≤ ie
          · by_cases hc2 : 0 < met
            · have hc2' : (0 : Int) < (met : Int) := by omega
              have hc3' : ¬ (met : Int) < (nd : Int) := fun h => hc ⟨hc1, hc2, by omega⟩
              clear hc
              go_wp2_with fail
              go_roundw
              case rel => exact ⟨k + 1, met, by go_num, rfl, by omega, by omega, by trivial, HS2⟩
              case measure => simp [intOf]; omega
            · have hc2' : ¬ (0 : Int) < (met : Int) := by omega
              clear hc
              go_wp2_with fail
              go_roundw
              case rel => exact ⟨k + 1, met, by go_num, rfl, by omega, by omega, by trivial, HS2⟩
              case measure => simp [intOf]; omega
          · clear hc
            go_wp2_with fail
            go_roundw
            case rel => exact ⟨k + 1, met, by go_num, rfl, by omega, by omega, by trivial, HS2⟩
            case measure => simp [intOf]; omega
    · obtain rfl : k = n := by omega
      have hdec : ((met : Int) == (nd : Int)) = decide (met = nd) := by rw [Bool.eq_iff_iff, beq_iff_eq, decide_eq_true_eq]; omega
      have HDEC := hide hdec
      clear hdec
      go_wp2_with fail
      go_ret
      rw [unhide HDEC]
      refine ⟨⟨_, rfl, ?_⟩, unhide HB2⟩
      rw [decide_eq_true_eq, unhide H0, unhide HSC]
      constructor
      · intro h; rw [h]
      · intro h; exact Option.some.inj h
end Go.Proofs.Ytdkchihomllokaa
/-
  The document's Place. Conditions: the document's front lies in memory, and stands, as told; the orders of edges are lists of ints.
-/
namespace Go.Proofs.Ytdkchihomllokaa
open Go.RowKit
set_option linter.unusedVariables false
set_option maxRecDepth 20000

/-- append onto an own row of ints, of any row of ints -/
theorem wpList_app_ints {w : World} {ops : Array Oper} {rest : List Oper} {o : Oper} {a : Act} {Q : Exit → Act → World → Prop} (hgd : o.guard = none) (s x : Operand)
    (ho : o.op = .call { callee := .builtin .append, args := #[s, x], argTypes := #[34, 34] }) (base : Nat) (v : Value) (n : Nat) (xs : List Int) (hs : a.eval s = v) (hown : w.ownsRow base 3 1 v n (zcells xs))
    (ad : Option Addr) (m c : Nat) (ys : List Int) (hx : a.eval x = .slice ad m c) (hno : ad = none → m = 0 ∧ c = 0) (hys : Ns w ad m ys) (hb : n + m ≤ 1000000) (hbase : base ≤ w.heap.size)
    (h : ∀ v' w', w'.ownsRow base 3 1 v' (n + m) (zcells (xs ++ ys)) → w.grownBy w' v.ownBlock → wpList Try.prog ops Q rest (a.put o.dst v') w') : wpList Try.prog ops Q (o :: rest) a w := by
  obtain ⟨i0, hi0, hz0, hz1, hz2⟩ := info_parts info3
  cases ad with
  | none =>
    obtain ⟨rfl, rfl⟩ := hno rfl
    refine wpList_append_own_none hgd s x 34 ho base 3 i0 1 Try.underlying34 hi0 v n (zcells xs) hs hown hx (h v w ?_ ⟨rfl, rfl, rfl, Nat.le_refl _, fun _ _ _ => rfl⟩)
    have : ys = [] := by have := hys.1; simpa using this
    subst this
    rw [List.append_nil]
    exact hown
  | some p =>
    refine wpList_append_own w hgd s x 34 ho base 3 i0 (.int .i64 0) 1 8 Try.underlying34 hi0 hz0 hz1 hz2 rfl (by decide) v n (zcells xs) hs hown p m c (zcells ys) hx (by rw [zcells_length, hys.1]; omega) hys.cells (zcells_one ys) (by unfold maxLen; omega) (by omega) hbase ?_
    intro v' w' ho' hg _
    refine h v' w' ?_ hg
    rw [show zcells (xs ++ ys) = zcells xs ++ zcells ys by simp [zcells]]
    exact ho'

theorem perm_of_sub {α : Type} [DecidableEq α] : ∀ (l m : List α), l.Nodup → (∀ x ∈ l, x ∈ m) → m.length ≤ l.length → l.Perm m
  | [], m, _, _, hl => by
    have : m = [] := List.length_eq_zero_iff.1 (by simpa using hl)
    subst this
    exact List.Perm.refl _
  | x :: l, m, hn, hs, hl => by
    have hx := hs x (by simp)
    rw [List.nodup_cons] at hn
    have hp := perm_of_sub l (m.erase x) hn.2 (fun z hz => by
      have hne : z ≠ x := fun e => hn.1 (e ▸ hz)
      exact (List.mem_erase_of_ne hne).2 (hs z (by simp [hz]))) (by
      rw [List.length_erase_of_mem hx]
      have := List.length_pos_of_mem hx
      simp at hl
      omega)
    exact (hp.cons x).trans (List.perm_cons_erase hx).symm
theorem toIs_nodup {l : List Nat} (h : l.Nodup) : (toIs l).Nodup := by
  unfold toIs
  rw [List.nodup_iff_pairwise_ne, List.pairwise_map]
  exact (List.nodup_iff_pairwise_ne.1 h).imp fun h e => h (by omega)
theorem srt_of_perm {zs : List Int} {es : List (Nat × Nat)} {y : Nat} (h : zs.Perm (toIs (Pl.outs es y))) : srtZ zs = toIs (Pl.outs es y) := by
  have h1 : (srtZ zs).Pairwise (· ≤ ·) := by
    unfold srtZ
    have := List.pairwise_mergeSort (le := fun x y : Int => decide (x ≤ y)) (fun a b c h1 h2 => by simp at *; omega) (fun a b => by simp; omega) zs
    exact this.imp fun h => by simpa using h
  exact List.Perm.eq_of_pairwise (le := (· ≤ ·)) (fun a b _ _ h1 h2 => by omega) h1 (outs_pw es y) ((srtZ_perm zs).trans h)

/-- what the document's Place leaves -/
def RefStep (rb V : Nat) (a : Option Addr) (cap : Nat) (es : List (Nat × Nat)) (src : Nat) (ra : Option Addr) (row : List It) (pa : Option Addr) (pl : List Nat) (x : Int) (zs : List Int) (w w' : World) (e : Ending) : Prop :=
  ∃ code ends row2 pl2 v ra' rc' pa' pc', Placed V es src row pl x zs code ends row2 pl2 ∧ e = .returned (.tuple #[v, .int .i64 code]) ∧ w'.ownsRow w.heap.size 72 3 v ends.length (icells ends) ∧ Rb w' rb V a cap es ra' rc' row2 pa' pc' pl2 ∧
    (∀ g off, ra' = some ⟨g, off, none⟩ → ra = some ⟨g, off, none⟩ ∨ w.heap.size ≤ g) ∧ (∀ g off, pa' = some ⟨g, off, none⟩ → pa = some ⟨g, off, none⟩ ∨ w.heap.size ≤ g) ∧ Bz rb (fun i => i = rb) w w' ∧ (code ≠ 0 → ra' = ra ∧ pa' = pa)

/-- where the edges to y begin, and end, among the first k items -/
def FL (y : Nat) (row : List It) (k : Nat) (f l : Int) : Prop :=
  (f = -1 ∧ ∀ j, j < k → hdE row j ≠ (y : Int)) ∨
  ∃ f' l' : Nat, f = (f' : Int) ∧ l = (l' : Int) ∧ f' ≤ l' ∧ l' < k ∧ hdE row f' = (y : Int) ∧ hdE row l' = (y : Int) ∧ (∀ j, j < f' → hdE row j ≠ (y : Int)) ∧ ∀ j, l' < j → j < k → hdE row j ≠ (y : Int)
theorem FL.zero (y : Nat) (row : List It) (l : Int) : FL y row 0 (-1) l := .inl ⟨rfl, fun j hj => by omega⟩
theorem FL.no {y : Nat} {row : List It} {k : Nat} {f l : Int} (h : FL y row k f l) (hk : hdE row k ≠ (y : Int)) : FL y row (k + 1) f l := by
  rcases h with ⟨h1, h2⟩ | ⟨f', l', h1, h2, h3, h4, h5, h6, h7, h8⟩
  · refine .inl ⟨h1, fun j hj => ?_⟩
    by_cases e : j = k
    · subst e; exact hk
    · exact h2 j (by omega)
  · refine .inr ⟨f', l', h1, h2, h3, by omega, h5, h6, h7, fun j hj hj2 => ?_⟩
    by_cases e : j = k
    · subst e; exact hk
    · exact h8 j hj (by omega)
theorem FL.first {y : Nat} {row : List It} {k : Nat} {f l : Int} (h : FL y row k f l) (hk : hdE row k = (y : Int)) (hf : f < 0) : FL y row (k + 1) (k : Nat) (k : Nat) := by
  rcases h with ⟨h1, h2⟩ | ⟨f', l', h1, _⟩
  · exact .inr ⟨k, k, rfl, rfl, Nat.le_refl _, by omega, hk, hk, h2, fun j hj hj2 => by omega⟩
  · omega
theorem FL.more {y : Nat} {row : List It} {k : Nat} {f l : Int} (h : FL y row k f l) (hk : hdE row k = (y : Int)) (hf : ¬ f < 0) : FL y row (k + 1) f (k : Nat) := by
  rcases h with ⟨h1, h2⟩ | ⟨f', l', h1, h2, h3, h4, h5, h6, h7, h8⟩
  · omega
  · exact .inr ⟨f', k, h1, rfl, by omega, by omega, h5, hk, h7, fun j hj hj2 => by omega⟩
theorem FL.rdy {V : Nat} {es : List (Nat × Nat)} {src : Nat} {row : List It} {pl : List Nat} (hI : Inv V es src row pl) {y : Nat} {A Y C : List It} (hr : Rdy V es row y A Y C) {f l : Int} (h : FL y row row.length f l) : f = (A.length : Nat) ∧ l + 1 = ((A.length + Y.length : Nat) : Int) := by
  have hn : row.length = A.length + (Y.length + C.length) := by rw [hr.eq]; simp
  have hp : ∀ j, j < row.length → (hdE row j = (y : Int) ↔ pE y (row.getD j (0, 0, 0)) = true) := fun j hj => (hI.head_e (gd_mem hj)).1
  obtain ⟨tf, Yf, hYf, hpf⟩ := hr.fst
  obtain ⟨tl, Yl, hYl, hpl⟩ := hr.lst
  have hm : 1 ≤ Y.length := by rw [hYf]; simp
  have hfst : row.getD A.length (0, 0, 0) = tf := by rw [hr.eq, gd_right (Nat.le_refl _), Nat.sub_self, hYf]; rfl
  have hlst : row.getD (A.length + Y.length - 1) (0, 0, 0) = tl := by
    have hl : Y.length = Yl.length + 1 := by rw [hYl]; simp
    rw [hr.eq, gd_right (by omega), gd_left (by omega), hYl, gd_right (by rw [← hYl]; omega)]
    rw [← hYl, show A.length + Y.length - 1 - A.length - Yl.length = 0 by omega]
    rfl
  have e1 : hdE row A.length = (y : Int) := (hp _ (by omega)).2 (by rw [hfst]; exact hpf)
  have e2 : hdE row (A.length + Y.length - 1) = (y : Int) := (hp _ (by omega)).2 (by rw [hlst]; exact hpl)
  have inside : ∀ j, j < row.length → hdE row j = (y : Int) → A.length ≤ j ∧ j < A.length + Y.length := by
    intro j h1 h2
    have hq := (hp j h1).1 h2
    constructor
    · rcases Nat.lt_or_ge j A.length with h | h
      · have := hr.outA _ (show row.getD j (0, 0, 0) ∈ A by rw [hr.eq, gd_left h]; exact gd_mem h)
        rw [this] at hq; cases hq
      · exact h
    · rcases Nat.lt_or_ge j (A.length + Y.length) with h | h
      · exact h
      · have := hr.outC _ (show row.getD j (0, 0, 0) ∈ C by rw [hr.eq, gd_right (by omega), gd_right (by omega)]; exact gd_mem (by omega))
        rw [this] at hq; cases hq
  rcases h with ⟨h1, h2⟩ | ⟨f', l', rfl, rfl, h3, h4, h5, h6, h7, h8⟩
  · exact absurd e1 (h2 _ (by omega))
  · have i1 := inside f' (by omega) h5
    have i2 := inside l' h4 h6
    have j1 : f' ≤ A.length := by
      rcases Nat.lt_or_ge A.length f' with h | h
      · exact absurd e1 (h7 _ h)
      · exact h
    have j2 : A.length + Y.length - 1 ≤ l' := by
      rcases Nat.lt_or_ge l' (A.length + Y.length - 1) with h | h
      · exact absurd e2 (h8 _ h (by omega))
      · exact h
    constructor <;> omega
end Go.Proofs.Ytdkchihomllokaa
/-
  Rows appended; the document's front after a store. No conditions but those told.
-/
namespace Go.Proofs.Ytdkchihomllokaa
open Go.RowKit
set_option linter.unusedVariables false
set_option maxRecDepth 20000

theorem Es.keep {B : Nat} {w w' : World} {a : Option Addr} {n : Nat} {es : List (Int × Int)} (h : Es B w a n es) (hs : w.heap.size ≤ w'.heap.size) (hk : 0 < n → ∀ g off, a = some ⟨g, off, none⟩ → g < w.heap.size → w'.heap[g]? = w.heap[g]?) : Es B w' a n es := by
  obtain ⟨h1, h2, h3⟩ := h
  refine ⟨h1, h2, fun k hkn => ?_⟩
  obtain ⟨g, off, ha, hB, hg, c0, c1⟩ := h3 k hkn
  have := hk (by omega) g off ha hg
  exact ⟨g, off, ha, hB, Nat.lt_of_lt_of_le hg hs, by rw [World.cell?_of_block (w := w) this]; exact c0, by rw [World.cell?_of_block (w := w) this]; exact c1⟩
theorem Ns.keep0 {w w' : World} {a : Option Addr} {n : Nat} {xs : List Int} (h : Ns w a n xs) (hs : w.heap.size ≤ w'.heap.size) (hk : ∀ g off, a = some ⟨g, off, none⟩ → g < w.heap.size → w'.heap[g]? = w.heap[g]?) : Ns w' a n xs := by
  obtain ⟨h1, h2, h3⟩ := h
  refine ⟨h1, h2, fun k hkn => ?_⟩
  obtain ⟨g, off, ha, hg, c0⟩ := h3 k hkn
  exact ⟨g, off, ha, Nat.lt_of_lt_of_le hg hs, by rw [World.cell?_of_block (w := w) (hk g off ha hg)]; exact c0⟩
theorem Rb.keep {w w' : World} {rb V : Nat} {a : Option Addr} {cap : Nat} {es : List (Nat × Nat)} {ra : Option Addr} {rc : Nat} {row : List It} {pa : Option Addr} {pc : Nat} {pl : List Nat} (h : Rb w rb V a cap es ra rc row pa pc pl) (hs : w.heap.size ≤ w'.heap.size)
    (h1 : w'.heap[rb]? = w.heap[rb]?) (ha : 0 < es.length → ∀ g off, a = some ⟨g, off, none⟩ → g < w.heap.size → w'.heap[g]? = w.heap[g]?) (hr : ∀ g off, ra = some ⟨g, off, none⟩ → g < w.heap.size → w'.heap[g]? = w.heap[g]?) (hp : ∀ g off, pa = some ⟨g, off, none⟩ → g < w.heap.size → w'.heap[g]? = w.heap[g]?) : Rb w' rb V a cap es ra rc row pa pc pl :=
  ⟨by rw [h1]; exact h.box, h.edges.keep hs ha, Cr.keep h.items hs hr, h.pls.keep0 hs hp, h.rno, h.pno, h.rcap, h.ne1, h.ne2, h.ne3⟩
/-- after the stores of Place -/
theorem Rb.new {w w' : World} {rb V : Nat} {a : Option Addr} {cap : Nat} {es : List (Nat × Nat)} {ra : Option Addr} {rc : Nat} {row : List It} {pa : Option Addr} {pc : Nat} {pl : List Nat} (h : Rb w rb V a cap es ra rc row pa pc pl)
    (hb : Bz rb (fun i => i = rb) w w') {base : Nat} (hbase : rb < base) {xa : Option Addr} {xc : Nat} {row2 : List It} {ya : Option Addr} {yc : Nat} {pl2 : List Nat}
    (hbox : w'.heap[rb]? = some (.cells #[.int .i64 (V : Nat), .slice a es.length cap, .slice xa row2.length xc, .slice ya pl2.length yc] 36 (0, 0)))
    (hx : w'.ownsRow base 72 3 (.slice xa row2.length xc) row2.length (icells row2)) (hy : w'.ownsRow base 3 1 (.slice ya pl2.length yc) pl2.length (zcells (toIs pl2))) (h1 : row2.length ≤ 1000) (h2 : pl2.length ≤ 1000) : Rb w' rb V a cap es xa xc row2 ya yc pl2 := by
  obtain ⟨a1, c1, e1, hc1, hn1, hI1, hl1⟩ := cr_of_owns hx (by omega)
  cases e1
  obtain ⟨a2, c2, e2, hc2, hn2, hI2, hl2⟩ := cr_of_owns hy (by omega)
  cases e2
  obtain ⟨a3, c3, e3, _, hN3⟩ := ns_of_owns hy (by omega)
  cases e3
  exact ⟨hbox, h.edges.keep hb.size (fun h0 g off he hg => hb.far g hg (h.ne1 h0 g off he)), hI1, hN3, hn1, hn2, hc1, h.ne1, fun g off he => by have := (hl1 g off he).1; omega, fun g off he => by have := (hl2 g off he).1; omega⟩

/-- append onto an own row of items, of any row of items -/
theorem wpList_app_its {w : World} {ops : Array Oper} {rest : List Oper} {o : Oper} {a : Act} {Q : Exit → Act → World → Prop} (hgd : o.guard = none) (s x : Operand)
    (ho : o.op = .call { callee := .builtin .append, args := #[s, x], argTypes := #[33, 33] }) (base : Nat) (v : Value) (n : Nat) (xs : List It) (hs : a.eval s = v) (hown : w.ownsRow base 72 3 v n (icells xs))
    (ad : Option Addr) (m c : Nat) (ys : List It) (hm : ys.length = m) (hx : a.eval x = .slice ad m c) (hno : ad = none → m = 0 ∧ c = 0) (hys : Is w ad ys) (hb : n + m ≤ 1000000) (hbase : base ≤ w.heap.size)
    (h : ∀ v' w', w'.ownsRow base 72 3 v' (n + m) (icells (xs ++ ys)) → w.grownBy w' v.ownBlock → wpList Try.prog ops Q rest (a.put o.dst v') w') : wpList Try.prog ops Q (o :: rest) a w := by
  obtain ⟨i0, hi0, hz0, hz1, hz2⟩ := info_parts info72
  cases ad with
  | none =>
    obtain ⟨rfl, rfl⟩ := hno rfl
    refine wpList_append_own_none hgd s x 33 ho base 72 i0 3 Try.underlying33 hi0 v n (icells xs) hs hown hx (h v w ?_ ⟨rfl, rfl, rfl, Nat.le_refl _, fun _ _ _ => rfl⟩)
    have : ys = [] := by simpa using hm
    subst this
    rw [List.append_nil]
    exact hown
  | some p =>
    refine wpList_append_own w hgd s x 33 ho base 72 i0 (.agg #[.int .i64 0, .int .i64 0, .int .i64 0]) 3 24 Try.underlying33 hi0 hz0 hz1 hz2 rfl (by decide) v n (icells xs) hs hown p m c (icells ys) hx (by rw [icells_length, hm]) (Cr.cells hys) (icells_one ys) (by unfold maxLen; omega) (by omega) hbase ?_
    intro v' w' ho' hg _
    refine h v' w' ?_ hg
    rw [icells_append]
    exact ho'
/-- .. as a run -/
theorem run_app_its {w : World} (base : Nat) (v : Value) (n : Nat) (xs : List It) (hown : w.ownsRow base 72 3 v n (icells xs))
    (p : Addr) (m c : Nat) (ys : List It) (hm : ys.length = m) (hys : Is w (some p) ys) (hb : n + m ≤ 1000000) (hbase : base ≤ w.heap.size) :
    ∃ v' w', Sem.run Try.prog (Builtin.append_ #[33, 33] 33 #[v, .slice (some p) m c]) w = .ok v' w' ∧ w'.ownsRow base 72 3 v' (n + m) (icells (xs ++ ys)) ∧ w.grownBy w' v.ownBlock := by
  obtain ⟨i0, hi0, hz0, hz1, hz2⟩ := info_parts info72
  obtain ⟨v8, w8, r8, own8, hg8, _, _⟩ := run_append_own_at (P := Try.prog) w base 33 33 72 i0 (.agg #[.int .i64 0, .int .i64 0, .int .i64 0]) 3 24 Try.underlying33 hi0 hz0 hz1 hz2 rfl (by decide) v n (icells xs) hown p m c (icells ys) (by rw [icells_length, hm]) (Cr.cells hys) (icells_one ys) (by unfold maxLen; omega) (by omega) hbase
  exact ⟨v8, w8, r8, by rw [icells_append]; exact own8, hg8⟩
theorem is_lit (w : World) (x y z : Int) : Is (w.alloc (.cells #[.int .i64 x, .int .i64 y, .int .i64 z] 72)) (some ⟨w.heap.size, 0, none⟩) [(x, y, z)] := by
  refine ⟨by simp [icells], by simp, fun j hj => ⟨w.heap.size, 0, rfl, by simp, ?_⟩⟩
  have hj' : j < 3 := by simpa using hj
  match j, hj' with
  | 0, _ => simp [icells]
  | 1, _ => simp [icells]
  | 2, _ => simp [icells]
theorem ns_lit (w : World) (x : Int) : Ns (w.alloc (.cells #[.int .i64 x] 3)) (some ⟨w.heap.size, 0, none⟩) 1 [x] :=
  ⟨rfl, by omega, fun k hk => ⟨w.heap.size, 0, rfl, by simp, by (obtain rfl : k = 0 := (by omega)); simp⟩⟩
theorem Is.nil0 (w : World) (a : Option Addr) : Is w a [] := Cr.nil 3 w a
theorem Bz.more {rb : Nat} {w w1 w2 : World} {r : Option Nat} (h : Bz rb (fun i => i = rb) w w1) (hg : w1.grownBy w2 r) (hr : ∀ b, r = some b → w.heap.size ≤ b) (hrb : rb ≤ w.heap.size) : Bz rb (fun i => i = rb) w w2 :=
  ⟨h.bel.grown hg (Nat.le_trans hrb h.size) (fun b hb => Nat.le_trans hrb (hr b hb)), Nat.le_trans h.size hg.size, fun i hi hs => by rw [hg.block i (Nat.lt_of_lt_of_le hi h.size) (fun e => by have := hr i e.symm; omega)]; exact h.far i hi hs⟩
theorem Bz.below {rb : Nat} {w w1 w2 : World} (h : Bz rb (fun i => i = rb) w w1) (hb : Below w1.heap.size w1 w2) (hrb : rb ≤ w.heap.size) : Bz rb (fun i => i = rb) w w2 := h.trans (Bz.of hb (Nat.le_trans hrb h.size))
theorem box_fz {w : World} {b : Nat} {cs : Array Value} {t : TypeId} (h : w.heap[b]? = some (.cells cs t (0, 0))) (o : Nat) : w.frozen? ⟨b, o, none⟩ = false := by simp [World.frozen?, h]
end Go.Proofs.Ytdkchihomllokaa
/-
  All orders of a list, as a plain function; rows of rows of ints that the call owns. No conditions but those told.
-/
namespace Go.Proofs.Ytdkchihomllokaa
open Go.RowKit
set_option linter.unusedVariables false
set_option maxRecDepth 20000

/-- what is left of a list without its i-th -/
def lack (l : List Int) (i : Nat) : List Int := l.take i ++ l.drop (i + 1)
theorem lack_len {l : List Int} {i : Nat} (h : i < l.length) : (lack l i).length + 1 = l.length := by
  unfold lack; rw [List.length_append, List.length_take, List.length_drop]; omega
theorem lack_perm {l : List Int} {i : Nat} (h : i < l.length) : (l.getD i 0 :: lack l i).Perm l := by
  have e : l = l.take i ++ (l.getD i 0 :: l.drop (i + 1)) := by
    rw [List.getD_eq_getElem?_getD, List.getElem?_eq_getElem h]
    simp
  unfold lack
  conv => rhs; rw [e]
  exact List.perm_middle.symm
/-- those that begin with the i-th -/
def ordsI (f : List Int → List (List Int)) (l : List Int) (i : Nat) : List (List Int) := (f (lack l i)).map fun t => l.getD i 0 :: t
def ordsF : Nat → List Int → List (List Int)
  | 0, _ => [[]]
  | n + 1, l => (List.range l.length).flatMap (ordsI (ordsF n) l)
theorem mem_ords : ∀ (n : Nat) (l t : List Int), l.length = n → (t ∈ ordsF n l ↔ t.Perm l)
  | 0, l, t, h => by
    have : l = [] := List.length_eq_zero_iff.1 h
    subst this
    simp [ordsF]
  | n + 1, l, t, h => by
    unfold ordsF
    rw [List.mem_flatMap]
    constructor
    · rintro ⟨i, hi, ht⟩
      have hil : i < l.length := List.mem_range.1 hi
      unfold ordsI at ht
      obtain ⟨t', ht', rfl⟩ := List.mem_map.1 ht
      have := (mem_ords n (lack l i) t' (by have := lack_len hil; omega)).1 ht'
      exact (this.cons _).trans (lack_perm hil)
    · intro hp
      cases t with
      | nil => have := hp.length_eq; simp at this; omega
      | cons x t' =>
        have hx : x ∈ l := hp.mem_iff.1 (by simp)
        obtain ⟨i, hil, rfl⟩ := List.mem_iff_getElem.1 hx
        refine ⟨i, List.mem_range.2 hil, ?_⟩
        unfold ordsI
        have e : l.getD i 0 = l[i] := by rw [List.getD_eq_getElem?_getD, List.getElem?_eq_getElem hil]; rfl
        refine List.mem_map.2 ⟨t', ?_, by rw [e]⟩
        refine (mem_ords n (lack l i) t' (by have := lack_len hil; omega)).2 ?_
        have h2 := (lack_perm hil).symm
        rw [e] at h2
        exact (hp.trans h2).cons_inv
def fct : Nat → Nat
  | 0 => 1
  | n + 1 => (n + 1) * fct n
theorem flat_len (f : Nat → List (List Int)) (q : Nat) : ∀ k, (∀ i, i < k → (f i).length = q) → ((List.range k).flatMap f).length = k * q
  | 0, _ => by simp
  | k + 1, h => by
    rw [List.range_succ, List.flatMap_append, List.length_append, flat_len f q k (fun i hi => h i (by omega))]
    simp only [List.flatMap_cons, List.flatMap_nil, List.append_nil]
    rw [h k (by omega), Nat.succ_mul]
theorem ords_len : ∀ (n : Nat) (l : List Int), l.length = n → (ordsF n l).length = fct n
  | 0, l, h => by simp [ordsF, fct]
  | n + 1, l, h => by
    unfold ordsF fct
    rw [flat_len _ (fct n) l.length (fun i hi => by unfold ordsI; rw [List.length_map]; exact ords_len n _ (by have := lack_len hi; omega)), h]
theorem fct_small {n : Nat} (h : n ≤ 10) : fct n ≤ 4000000 := by
  have : ∀ m, m ≤ 10 → fct m ≤ 4000000 := by decide
  exact this n h

/-- a row of rows of ints, that the call owns -/
def Ow (w : World) (base : Nat) (v : Value) (ls : List (List Int)) : Prop :=
  ∃ cs, w.ownsRow base 34 1 v ls.length cs ∧ ∀ j, j < ls.length → ∃ a c, cs[j]? = some (.slice (some a) (ls.getD j []).length c) ∧ Ns w (some a) (ls.getD j []).length (ls.getD j []) ∧ (ls.getD j []).length ≤ c ∧
    ∀ g off, some a = some (⟨g, off, none⟩ : Addr) → base ≤ g ∧ g < w.heap.size ∧ v.ownBlock ≠ some g
theorem Ow.keep {w w' : World} {base : Nat} {v : Value} {ls : List (List Int)} (h : Ow w base v ls) (hs : w.heap.size ≤ w'.heap.size) (hk : ∀ i, base ≤ i → i < w.heap.size → w'.heap[i]? = w.heap[i]?) : Ow w' base v ls := by
  obtain ⟨cs, ho, h2⟩ := h
  refine ⟨cs, owns_keep ho (fun g hg => hk g (ho.lt g hg).1 (ho.lt g hg).2), fun j hj => ?_⟩
  obtain ⟨a, c, h3, h4, h6, h7⟩ := h2 j hj
  refine ⟨a, c, h3, ?_, h6, fun g off he => ⟨(h7 g off he).1, Nat.lt_of_lt_of_le (h7 g off he).2.1 hs, (h7 g off he).2.2⟩⟩
  obtain ⟨n1, n2, n3⟩ := h4
  refine ⟨n1, n2, fun k hkn => ?_⟩
  obtain ⟨g, off, ha, hg, c0⟩ := n3 k hkn
  exact ⟨g, off, ha, Nat.lt_of_lt_of_le hg hs, by rw [World.cell?_of_block (w := w) (hk g (h7 g off ha).1 hg)]; exact c0⟩
theorem Ow.below {w w' : World} {base : Nat} {v : Value} {ls : List (List Int)} (h : Ow w base v ls) (hb : Below w.heap.size w w') : Ow w' base v ls := h.keep hb.size (fun i _ hi => hb.block i hi)
theorem Ow.mono {w : World} {base base' : Nat} {v : Value} {ls : List (List Int)} (h : Ow w base v ls) (hb : base' ≤ base) : Ow w base' v ls := by
  obtain ⟨cs, ho, h2⟩ := h
  refine ⟨cs, owns_mono ho hb, fun j hj => ?_⟩
  obtain ⟨a, c, h3, h4, h6, h7⟩ := h2 j hj
  exact ⟨a, c, h3, h4, h6, fun g off he => ⟨Nat.le_trans hb (h7 g off he).1, (h7 g off he).2⟩⟩
theorem Ow.shape {w : World} {base : Nat} {v : Value} {ls : List (List Int)} (h : Ow w base v ls) : ∃ a c, v = .slice a ls.length c := by
  obtain ⟨cs, ho, _⟩ := h
  exact own_shape ho
/-- the j-th row -/
theorem Ow.at {w : World} {base : Nat} {v : Value} {ls : List (List Int)} (h : Ow w base v ls) {j : Nat} (hj : j < ls.length) :
    ∃ g c0 a c, v = .slice (some ⟨g, 0, none⟩) ls.length c0 ∧ base ≤ g ∧ g < w.heap.size ∧ w.cell? ⟨g, j, none⟩ = some (.slice (some a) (ls.getD j []).length c) ∧ Ns w (some a) (ls.getD j []).length (ls.getD j []) ∧ (ls.getD j []).length ≤ c ∧ ∀ g' off, some a = some (⟨g', off, none⟩ : Addr) → base ≤ g' := by
  obtain ⟨cs, ho, h2⟩ := h
  obtain ⟨a, c, h3, h4, h6, h7⟩ := h2 j hj
  obtain ⟨g, c0, hv⟩ := own_form ho (by omega)
  subst hv
  have hl := ho.lt g rfl
  exact ⟨g, c0, a, c, rfl, hl.1, hl.2, by rw [ho.cellAt j (by omega)]; exact h3, h4, h6, fun g' off he => (h7 g' off he).1⟩
/-- one more -/
theorem Ow.push {u w' : World} {base : Nat} {v v' : Value} {ls : List (List Int)} {cs : List Value} {t : List Int} {ax : Addr} {cx m : Nat}
    (ho : u.ownsRow base 34 1 v ls.length cs) (h2 : ∀ j, j < ls.length → ∃ a c, cs[j]? = some (.slice (some a) (ls.getD j []).length c) ∧ Ns u (some a) (ls.getD j []).length (ls.getD j []) ∧ (ls.getD j []).length ≤ c ∧ ∀ g off, some a = some (⟨g, off, none⟩ : Addr) → base ≤ g ∧ g < u.heap.size ∧ v.ownBlock ≠ some g)
    (hs : u.heap.size ≤ m) (hm : m ≤ w'.heap.size) (ho' : w'.ownsRow base 34 1 v' (ls.length + 1) (cs ++ [.slice (some ax) t.length cx])) (hfar : ∀ i, i < u.heap.size → v.ownBlock ≠ some i → w'.heap[i]? = u.heap[i]?) (hat : v'.ownBlock = v.ownBlock ∨ v'.ownBlock = some m)
    (hx : Ns w' (some ax) t.length t) (hxc : t.length ≤ cx) (hxb : ∀ g off, some ax = some (⟨g, off, none⟩ : Addr) → u.heap.size ≤ g ∧ g < m) (hbu : base ≤ u.heap.size) : Ow w' base v' (ls ++ [t]) := by
  have hcl : cs.length = ls.length := by have := ho.1; simpa using this
  refine ⟨cs ++ [.slice (some ax) t.length cx], by rw [List.length_append]; exact ho', fun j hj => ?_⟩
  by_cases hjl : j < ls.length
  · obtain ⟨a, c, h3, h4, h6, h7⟩ := h2 j hjl
    have e : (ls ++ [t]).getD j [] = ls.getD j [] := by rw [List.getD_eq_getElem?_getD, List.getElem?_append_left hjl, ← List.getD_eq_getElem?_getD]
    rw [e]
    refine ⟨a, c, by rw [List.getElem?_append_left (by omega)]; exact h3, ?_, h6, fun g off he => ?_⟩
    · obtain ⟨n1, n2, n3⟩ := h4
      refine ⟨n1, n2, fun k hkn => ?_⟩
      obtain ⟨g, off, ha, hg, c0⟩ := n3 k hkn
      exact ⟨g, off, ha, by omega, by rw [World.cell?_of_block (w := u) (hfar g hg (h7 g off ha).2.2)]; exact c0⟩
    · obtain ⟨k1, k2, k3⟩ := h7 g off he
      refine ⟨k1, by omega, fun e => ?_⟩
      rcases hat with h | h
      · exact k3 (h ▸ e)
      · rw [h] at e; cases e; omega
  · obtain rfl : j = ls.length := by simp at hj; omega
    have e : (ls ++ [t]).getD ls.length [] = t := by simp [List.getD_eq_getElem?_getD]
    rw [e]
    refine ⟨ax, cx, by rw [← hcl]; simp, hx, hxc, fun g off he => ?_⟩
    obtain ⟨k1, k2⟩ := hxb g off he
    refine ⟨by omega, by omega, fun e2 => ?_⟩
    rcases hat with h | h
    · rw [h] at e2
      have := (ho.lt g e2).2
      omega
    · rw [h] at e2; cases e2; omega
/-- append of ints, as a run -/
theorem run_app_ints {w : World} (base : Nat) (v : Value) (n : Nat) (xs : List Int) (hown : w.ownsRow base 3 1 v n (zcells xs))
    (p : Addr) (m c : Nat) (ys : List Int) (hys : Ns w (some p) m ys) (hb : n + m ≤ 1000000) (hbase : base ≤ w.heap.size) :
    ∃ v' w', Sem.run Try.prog (Builtin.append_ #[34, 34] 34 #[v, .slice (some p) m c]) w = .ok v' w' ∧ w'.ownsRow base 3 1 v' (n + m) (zcells (xs ++ ys)) ∧ w.grownBy w' v.ownBlock := by
  obtain ⟨i0, hi0, hz0, hz1, hz2⟩ := info_parts info3
  obtain ⟨v8, w8, r8, own8, hg8, _, _⟩ := run_append_own_at (P := Try.prog) w base 34 34 3 i0 (.int .i64 0) 1 8 Try.underlying34 hi0 hz0 hz1 hz2 rfl (by decide) v n (zcells xs) hown p m c (zcells ys) (by rw [zcells_length, hys.1]; omega) hys.cells (zcells_one ys) (by unfold maxLen; omega) (by omega) hbase
  exact ⟨v8, w8, r8, by rw [show zcells (xs ++ ys) = zcells xs ++ zcells ys by simp [zcells]]; exact own8, hg8⟩
/-- append of a row onto rows, as a run -/
theorem run_app_row {w : World} (base : Nat) (v : Value) (n : Nat) (cs : List Value) (hown : w.ownsRow base 34 1 v n cs) (p : Addr) (c : Nat) (x : Value) (hx : w.cell? p = some x) (h1 : x.oneCell' = true) (hb : n + 1 ≤ 5000000) (hbase : base ≤ w.heap.size) :
    ∃ v' w', Sem.run Try.prog (Builtin.append_ #[56, 56] 56 #[v, .slice (some p) 1 c]) w = .ok v' w' ∧ w'.ownsRow base 34 1 v' (n + 1) (cs ++ [x]) ∧ w.grownBy w' v.ownBlock ∧ (v'.ownBlock = v.ownBlock ∨ v'.ownBlock = some w.heap.size) := by
  obtain ⟨i0, hi0, hz0, hz1, hz2⟩ := info_parts info28
  obtain ⟨v8, w8, r8, own8, hg8, _, hat⟩ := run_append_own_at (P := Try.prog) w base 56 56 34 i0 (.slice none 0 0) 1 24 Try.underlying56 hi0 hz0 hz1 hz2 rfl (by decide) v n cs hown p 1 c [x] rfl (fun j u hj => by
    cases j with
    | zero => simp at hj; subst hj; rw [show p.add 0 = p from by cases p; simp [Addr.add]]; exact hx
    | succ j => simp at hj) (fun u hu => by rw [List.mem_singleton.1 hu]; exact h1) (by unfold maxLen; omega) (by omega) hbase
  exact ⟨v8, w8, r8, own8, hg8, hat⟩
end Go.Proofs.Ytdkchihomllokaa
/-
  The contract of the document's Orders. Conditions: the list lies in memory, of ten numbers at most.
-/
namespace Go.Proofs.Ytdkchihomllokaa
open Go.RowKit
set_option linter.unusedVariables false
set_option maxRecDepth 20000

theorem ow_one (w : World) : Ow ((w.alloc (.cells #[] 3)).alloc (.cells #[.slice (some ⟨w.heap.size, 0, none⟩) 0 0] 34)) w.heap.size (.slice (some ⟨w.heap.size + 1, 0, none⟩) 1 1) [[]] := by
  refine ⟨[.slice (some ⟨w.heap.size, 0, none⟩) 0 0], ?_, fun j hj => ?_⟩
  · have := World.ownsRow_lit (size := 1) (w.alloc (.cells #[] 3)) #[.slice (some ⟨w.heap.size, 0, none⟩) 0 0] 1 (base := w.heap.size) (e := 34) (by simp) (by unfold maxLen; omega) (by simp)
    simpa using this
  · obtain rfl : j = 0 := by simpa using hj
    refine ⟨⟨w.heap.size, 0, none⟩, 0, rfl, Ns.nil _ _, Nat.le_refl _, fun g off he => ?_⟩
    cases he
    refine ⟨Nat.le_refl _, by simp; omega, ?_⟩
    simp [Value.ownBlock]
theorem ow_none (w : World) : Ow (w.alloc (.cells #[] 34)) w.heap.size (.slice (some ⟨w.heap.size, 0, none⟩) 0 0) [] :=
  ⟨[], owns_lit_empty w 34 1 w.heap.size (Nat.le_refl _), fun j hj => by simp at hj⟩

theorem Ns.take {w : World} {a : Option Addr} {n : Nat} {xs : List Int} (h : Ns w a n xs) {m : Nat} (hm : m ≤ n) : Ns w a m (xs.take m) := by
  obtain ⟨h1, h2, h3⟩ := h
  refine ⟨by rw [List.length_take]; omega, by omega, fun k hk => ?_⟩
  obtain ⟨g, off, ha, hg, c0⟩ := h3 k (by omega)
  refine ⟨g, off, ha, hg, ?_⟩
  rw [c0]
  simp [List.getD_eq_getElem?_getD, hk]
theorem Ns.drop {w : World} {g off : Nat} {n : Nat} {xs : List Int} (h : Ns w (some ⟨g, off, none⟩) n xs) {m : Nat} (hm : m ≤ n) (a' : Addr) (ha' : m < n → a' = ⟨g, off + m, none⟩) : Ns w (some a') (n - m) (xs.drop m) := by
  obtain ⟨h1, h2, h3⟩ := h
  refine ⟨by rw [List.length_drop]; omega, by omega, fun k hk => ?_⟩
  obtain ⟨g', off', ha, hg, c0⟩ := h3 (m + k) (by omega)
  cases ha
  refine ⟨g, off + m, by rw [ha' (by omega)], hg, ?_⟩
  rw [show off + m + k = off + (m + k) by omega, c0]
  simp [List.getD_eq_getElem?_getD, List.getElem?_drop]

set_option maxHeartbeats 8000000 in
theorem orders_any : ∀ (n : Nat) (w : World) (a : Option Addr) (c : Nat) (l : List Int), Ns w a n l → n ≤ 10 → (a = none → n = 0 ∧ c = 0) → n ≤ c →
    Calls Try.prog 23 #[.slice a n c] w fun e w' => (∃ v, e = .returned v ∧ Ow w' w.heap.size v (ordsF n l)) ∧ Below w.heap.size w w'
  | 0, w, a, c, l, hN, hn, hno, hc => by
    have e : ordsF 0 l = [[]] := rfl
    rw [e]
    have HO := hide (ow_one w)
    clear hN hno e
    go_enter Try.func23, Try.ntmps23
    go_wp2_with fail
    go_ret
    refine ⟨⟨_, rfl, unhide HO⟩, ?_⟩
    exact ((Below.refl _ _).alloc (Nat.le_refl _) _).alloc (by simp) _
  | n + 1, w, a, c, l, hN, hn, hno, hc => by
    have IH := hide (orders_any n)
    have HN := hide hN
    have HNO := hide hno
    obtain ⟨T, hT⟩ : ∃ T, n + 1 = T := ⟨_, rfl⟩
    have hll : l.length = T := by rw [← hT]; exact hN.1
    have HLL := hide hll
    have HT := hide hT
    obtain ⟨g, off, hga, hg, _⟩ := hN.2.2 0 (by omega)
    subst hga
    have HOA := hide (ow_none w)
    have HBA := hide (b_al (w := w) (.cells #[] 34))
    rw [hT] at hc hn HN ⊢
    have hT0 : ((T : Int) == 0) = false := by rw [beq_eq_false_iff_ne]; omega
    clear hN hno hll hT
    go_enter Try.func23, Try.ntmps23
    go_wp2_with fail
    go_loopw [3, 4] (fun v i wr => ∃ k : Nat, i = .int .i64 k ∧ k ≤ T ∧ Hid (Ow wr w.heap.size v ((List.range k).flatMap (ordsI (ordsF n) l))) ∧ Hid (Below w.heap.size w wr)) (fun v i wr => T - (intOf i).toNat)
    case atStart => exact ⟨0, rfl, by omega, HOA, HBA⟩
    case round =>
      obtain ⟨k, rfl, hk, HOW, HBW⟩ := hrel
      by_cases hlt : k < T
      · have hNw := (unhide HN).below (unhide HBW)
        have hgw : g < wr.heap.size := Nat.lt_of_lt_of_le hg (unhide HBW).size
        obtain ⟨g', off', e', _, ck⟩ := hNw.2.2 k hlt
        cases e'
        obtain ⟨x, hx⟩ : ∃ x, l.getD k 0 = x := ⟨_, rfl⟩
        rw [hx] at ck
        have HX := hide hx
        have HCK := hide (show w.cell? ⟨g, off + k, none⟩ = some (.int .i64 x) by rw [← (unhide HBW).cell (p := ⟨g, off + k, none⟩) hg]; exact ck)
        obtain ⟨ta, hta⟩ : ∃ ta, (if c = k + 1 then some (⟨g, off, none⟩ : Addr) else some ⟨g, off + (k + 1), none⟩) = ta := ⟨_, rfl⟩
        obtain ⟨ta', hta', htb⟩ : ∃ ta' : Addr, ta = some ta' ∧ (k + 1 < T → ta' = ⟨g, off + (k + 1), none⟩) := by
          by_cases h : c = k + 1
          · rw [if_pos h] at hta
            exact ⟨_, hta.symm, fun h2 => by omega⟩
          · rw [if_neg h] at hta
            exact ⟨_, hta.symm, fun _ => rfl⟩
        have HN1 := hide (hNw.take (m := k) (by omega))
        have HN2 := hide (hNw.drop (m := k + 1) (by omega) ta' htb)
        have HTA := hide hta
        have HTA' := hide hta'
        have hkT : (k : Int) < (T : Int) := by omega
        have hk01 : (0 : Int) ≤ (k : Int) + 1 := by omega
        have hkT1 : (k : Int) + 1 ≤ (T : Int) := by omega
        have hkc : (k : Int) ≤ (c : Int) := by omega
        have hkc1 : (k : Int) + 1 ≤ (c : Int) := by omega
        have hTc : (T : Int) ≤ (c : Int) := by omega
        have hwk : IntKind.i64.wrap ((k : Int) + 1) = (k : Int) + 1 := by rw [IntKind.wrap_i64]; omega
        clear hNw hx hta hta' htb
        go_wp2_with fail
        refine wp_region_held_drew (S := fun u => u.cell? ⟨g, off + k, none⟩ = some (.int .i64 x)) (by kernel_rfl) ck (fun hS0 => ?_)
        have HOW0 := hide (show Ow wr.drew w.heap.size _ _ from (unhide HOW).below b_dr)
        have HBW0 := hide ((unhide HBW).drew)
        have HN10 := hide (show Ns wr.drew _ _ _ from unhide HN1)
        have HN20 := hide (show Ns wr.drew _ _ _ from unhide HN2)
        clear HOW HBW HN1 HN2 ck
        replace hgw : g < wr.drew.heap.size := hgw
        generalize wr.drew = u at hS0 HOW0 HBW0 HN10 HN20 hgw ⊢
        have hu1 := b_al (w := u) (.cells #[] 3)
        obtain ⟨v24, w24, r24, own24, hg24⟩ := run_app_ints (w := u.alloc (.cells #[] 3)) u.heap.size _ 0 [] (owns_lit_empty u 3 1 u.heap.size (Nat.le_refl _)) ⟨g, off, none⟩ k c (l.take k) ((unhide HN10).below hu1) (by omega) (by simp)
        have hu24 : Below u.heap.size u w24 := hu1.grown hg24 (by simp) (fun b hb => ((owns_lit_empty u 3 1 u.heap.size (Nat.le_refl _)).lt b hb).1)
        obtain ⟨v29, w29, r29, own29, hg29⟩ := run_app_ints (w := w24) u.heap.size v24 _ _ own24 ta' (T - (k + 1)) (c - (k + 1)) (l.drop (k + 1)) ((unhide HN20).below hu24) (by omega) hu24.size
        have hu29 : Below u.heap.size u w29 := hu24.grown hg29 hu24.size (fun b hb => (own24.lt b hb).1)
        have q1 : (u.alloc (.cells #[] 3)).cell? ⟨g, off + k, none⟩ = some (.int .i64 x) := by rw [hu1.cell (p := ⟨g, _, none⟩) hgw]; exact hS0
        have q24 : w24.cell? ⟨g, off + k, none⟩ = some (.int .i64 x) := by rw [hu24.cell (p := ⟨g, _, none⟩) hgw]; exact hS0
        have q29 : w29.cell? ⟨g, off + k, none⟩ = some (.int .i64 x) := by rw [hu29.cell (p := ⟨g, _, none⟩) hgw]; exact hS0
        have HO29 := hide (show w29.ownsRow u.heap.size 3 1 v29 n (zcells (lack l k)) by
          have h1 : k + (T - (k + 1)) = n := by have := unhide HT; omega
          rw [← h1]
          have := own29
          rw [Nat.zero_add, List.nil_append] at this
          exact this)
        have HB29 := hide hu29
        have hta1 := unhide HTA'
        have hz : (0 : Nat) + k = k := Nat.zero_add k
        clear hu1 own24 hg24 hu24 own29 hg29 hu29
        refine wpAnyH_take (i := 1) (v := ?_) rfl (by kernel_rfl) (by kernel_rfl) (by kernel_rfl) (fun _ _ _ h => h) (Or.inl ⟨by rfl, ?_⟩) hS0 ?_
        rotate_left
        · intro u hu; (try dsimp only at hu); go_simp; try with_reducible rfl
        simp only [Act.put, List.getElem_toArray, List.getElem_cons_zero, List.getElem_cons_succ, List.setIfInBounds_toArray, List.set_cons_zero, List.set_cons_succ]
        refine wpAnyH_take (i := 2) (v := ?_) rfl (by kernel_rfl) (by kernel_rfl) (by kernel_rfl) (fun _ _ _ h => h) (Or.inl ⟨by rfl, ?_⟩) hS0 ?_
        rotate_left
        · intro u hu; (try dsimp only at hu); go_simp; try with_reducible rfl
        simp only [Act.put, List.getElem_toArray, List.getElem_cons_zero, List.getElem_cons_succ, List.setIfInBounds_toArray, List.set_cons_zero, List.set_cons_succ]
        refine wpAnyH_take (i := 3) (v := ?_) rfl (by kernel_rfl) (by kernel_rfl) (by kernel_rfl) (fun _ _ _ h => h) (Or.inl ⟨by rfl, ?_⟩) hS0 ?_
        rotate_left
        · intro u hu; (try dsimp only at hu); go_simp; try with_reducible rfl
        simp only [Act.put, List.getElem_toArray, List.getElem_cons_zero, List.getElem_cons_succ, List.setIfInBounds_toArray, List.set_cons_zero, List.set_cons_succ]
        refine wpAnyH_take (i := 5) (v := ?_) rfl (by kernel_rfl) (by kernel_rfl) (by kernel_rfl) (fun _ _ _ h => h) (Or.inl ⟨by rfl, ?_⟩) hS0 ?_
        rotate_left
        · intro u hu; (try dsimp only at hu); go_simp; try with_reducible rfl
        simp only [Act.put, List.getElem_toArray, List.getElem_cons_zero, List.getElem_cons_succ, List.setIfInBounds_toArray, List.set_cons_zero, List.set_cons_succ]
        refine wpAnyH_take (i := 6) (v := ?_) rfl (by kernel_rfl) (by kernel_rfl) (by kernel_rfl) (fun _ _ _ h => h) (Or.inl ⟨by rfl, ?_⟩) hS0 ?_
        rotate_left
        · intro u hu; (try dsimp only at hu); go_simp; try with_reducible rfl
        simp only [Act.put, List.getElem_toArray, List.getElem_cons_zero, List.getElem_cons_succ, List.setIfInBounds_toArray, List.set_cons_zero, List.set_cons_succ]
        refine wpAnyH_take (i := 7) (v := ?_) rfl (by kernel_rfl) (by kernel_rfl) (by kernel_rfl) (fun _ _ _ h => h) (Or.inl ⟨by rfl, ?_⟩) hS0 ?_
        rotate_left
        · intro u hu; (try dsimp only at hu); go_simp; try with_reducible rfl
        simp only [Act.put, List.getElem_toArray, List.getElem_cons_zero, List.getElem_cons_succ, List.setIfInBounds_toArray, List.set_cons_zero, List.set_cons_succ]
        refine wpAnyH_take (i := 8) (v := ?_) rfl (by kernel_rfl) (by kernel_rfl) (by kernel_rfl) (fun _ _ _ h => h) (Or.inl ⟨by rfl, ?_⟩) hS0 ?_
        rotate_left
        · intro u hu; (try dsimp only at hu); go_simp; try with_reducible rfl
        simp only [Act.put, List.getElem_toArray, List.getElem_cons_zero, List.getElem_cons_succ, List.setIfInBounds_toArray, List.set_cons_zero, List.set_cons_succ]
        try rw [unhide HTA, hta1]
        refine wpAnyH_ready (rs := [0]) (by kernel_rfl) (by simp) ?_
        refine AllReadyH.cons rfl (fun K hK => ?_) AllReadyH.nil
        go_simp
        refine hK.out _ _ q1 (fun hU1 => ?_)
        clear hK K
        refine wpAnyH_ready (rs := [4]) (by kernel_rfl) (by simp) ?_
        refine AllReadyH.cons rfl (fun K hK => ?_) AllReadyH.nil
        refine Eq.mpr (if_pos rfl) ?_
        change Oper.wp Try.prog { dst := some 24, op := Op.call { callee := .builtin .append, args := #[.tmp 20, .tmp 23], argTypes := #[34, 34] }, type := 34, pos := _, after := _, guard := _ } _ _ _ _
        unfold Oper.wp execOp
        simp only [resolve, invoke, builtin, Sem.run_bind, Sem.run_pure, Result.andThen_ok, List.map_toArray, List.map_cons, List.map_nil]
        change Oper.upon _ _ _ _ _ ((Sem.run Try.prog (Builtin.append_ #[34, 34] 34 #[.slice (some ⟨u.heap.size, 0, none⟩) 0 0, .slice (some ⟨g, off, none⟩) k c]) _).andThen _)
        rw [r24]
        simp only [Result.andThen_ok, Oper.upon]
        refine hK.out _ _ q24 (fun hU2 => ?_)
        clear hK K
        refine wpAnyH_ready (rs := [9]) (by kernel_rfl) (by simp) ?_
        refine AllReadyH.cons rfl (fun K hK => ?_) AllReadyH.nil
        refine Eq.mpr (if_pos rfl) ?_
        change Oper.wp Try.prog { dst := some 29, op := Op.call { callee := .builtin .append, args := #[.tmp 24, .tmp 28], argTypes := #[34, 34] }, type := 34, pos := _, after := _, guard := _ } _ _ _ _
        unfold Oper.wp execOp
        simp only [resolve, invoke, builtin, Sem.run_bind, Sem.run_pure, Result.andThen_ok, List.map_toArray, List.map_cons, List.map_nil]
        change Oper.upon _ _ _ _ _ ((Sem.run Try.prog (Builtin.append_ #[34, 34] 34 #[v24, .slice (some ta') (T - (k + 1)) (c - (k + 1))]) _).andThen _)
        rw [r29]
        simp only [Result.andThen_ok, Oper.upon]
        refine hK.out _ _ q29 (fun hU3 => ?_)
        clear hK K
        refine wpAnyH_take (i := 10) (v := ?_) rfl (by kernel_rfl) (by kernel_rfl) (by kernel_rfl) (fun _ _ _ h => h) (Or.inl ⟨by rfl, ?_⟩) hU3 ?_
        rotate_left
        · intro u hu; (try dsimp only at hu); go_simp; try with_reducible rfl
        simp only [Act.put, List.getElem_toArray, List.getElem_cons_zero, List.getElem_cons_succ, List.setIfInBounds_toArray, List.set_cons_zero, List.set_cons_succ]
        refine wpAnyH_done (by kernel_rfl) ?_ _
        clear hU1 hU2 hU3 hS0 q1 q24 r24 r29 hz hta1
        have hn9 : n ≤ 9 := by have := unhide HT; omega
        obtain ⟨xa, xc, hv29, hxc, hxno, _, _⟩ := cr_of_owns (unhide HO29) (by omega)
        obtain ⟨xa', xc', hv29', _, hN29⟩ := ns_of_owns (unhide HO29) (by omega)
        subst hv29
        cases hv29'
        have CI := hide (unhide IH w29 xa xc (lack l k) hN29 (by omega) hxno hxc)
        have HSZ := hide ((unhide HB29).size)
        clear hxc hxno hN29 q29
        go_wp2_with fail
        refine (unhide CI).mono ?_
        rintro e w30 ⟨⟨v6, rfl, ho6⟩, hb6⟩
        obtain ⟨ga, gc, rfl⟩ := ho6.shape
        have HT6 := hide ho6
        have HP0 := hide (show Ow w30 w.heap.size u3 ((List.range k).flatMap (ordsI (ordsF n) l)) from ((unhide HOW0).below (unhide HB29)).below hb6)
        have hlt3 : ∀ g, u3.ownBlock = some g → g < w29.heap.size := fun g hg => by obtain ⟨cs, ho, _⟩ := unhide HOW0; have := (ho.lt g hg).2; have := unhide HSZ; omega
        have HB30 := hide (show Below w.heap.size w w30 from ((unhide HBW0).trans ((unhide HB29).mono (unhide HBW0).size)).trans (hb6.mono (Nat.le_trans (unhide HBW0).size (unhide HSZ))))
        have hs2930 : w29.heap.size ≤ w30.heap.size := hb6.size
        obtain ⟨pre, hpre⟩ : ∃ pre, (List.range k).flatMap (ordsI (ordsF n) l) = pre := ⟨_, rfl⟩
        obtain ⟨tails, htl⟩ : ∃ tails, ordsF n (lack l k) = tails := ⟨_, rfl⟩
        have hlk : (lack l k).length = n := by have := lack_len (l := l) (i := k) (by rw [unhide HLL]; exact hlt); have := unhide HLL; have := unhide HT; omega
        have hbd : pre.length + tails.length ≤ 4000000 := by
          rw [← hpre, ← htl, ords_len n _ hlk, flat_len _ (fct n) k (fun i hi => by unfold ordsI; rw [List.length_map]; exact ords_len n _ (by have := lack_len (l := l) (i := i) (by rw [unhide HLL]; omega); have := unhide HLL; have := unhide HT; omega))]
          have h1 : fct (n + 1) ≤ 4000000 := fct_small (by have := unhide HT; omega)
          have h2 : fct (n + 1) = (n + 1) * fct n := rfl
          have h3 : (k + 1) * fct n ≤ (n + 1) * fct n := Nat.mul_le_mul_right _ (by have := unhide HT; omega)
          rw [Nat.succ_mul] at h3
          omega
        have HPN := hide (show (List.range (k + 1)).flatMap (ordsI (ordsF n) l) = pre ++ tails.map (fun t => x :: t) by
          rw [List.range_succ, List.flatMap_append, hpre]
          simp only [List.flatMap_cons, List.flatMap_nil, List.append_nil]
          unfold ordsI
          rw [htl, unhide HX])
        have HTM := hide (show ∀ t ∈ tails, t.length ≤ 9 from fun t ht => by rw [← htl] at ht; rw [((mem_ords n _ t hlk).1 ht).length_eq, hlk]; exact hn9)
        rw [hpre] at HP0
        rw [htl] at HT6 ⊢
        have HBD := hide hbd
        obtain ⟨tl, htll⟩ : ∃ tl, tails.length = tl := ⟨_, rfl⟩
        rw [htll] at ⊢ hbd
        have HTLL := hide htll
        clear ho6 hb6 hpre htl hlk htll HOW0 HBW0 HO29 HB29 CI HN10 HN20
        go_wp2_with fail
        go_loopw [3, 7] (fun v i wr => ∃ j : Nat, i = .int .i64 j ∧ j ≤ tl ∧ Hid (Ow wr w.heap.size v (pre ++ (tails.take j).map (fun t => x :: t))) ∧ Hid (Below w.heap.size w wr) ∧ Hid (w30.heap.size ≤ wr.heap.size ∧ (∀ i, w29.heap.size ≤ i → i < w30.heap.size → wr.heap[i]? = w30.heap[i]?) ∧ ∀ g, v.ownBlock = some g → g < w29.heap.size ∨ w30.heap.size ≤ g)) (fun v i wr => tl - (intOf i).toNat)
        case atStart => exact ⟨0, rfl, by omega, by rw [List.take_zero, List.map_nil, List.append_nil]; exact HP0, HB30, ⟨Nat.le_refl _, fun i _ _ => rfl, fun g hg => .inl (hlt3 g hg)⟩⟩
        case round =>
          obtain ⟨j, rfl, hj, HOJ, HBJ, HFJ⟩ := hrel
          by_cases hjl : j < tl
          · have hgw2 : g < wr.heap.size := Nat.lt_of_lt_of_le hg (unhide HBJ).size
            have ck2 : wr.cell? ⟨g, off + k, none⟩ = some (.int .i64 x) := by rw [(unhide HBJ).cell (p := ⟨g, off + k, none⟩) hg]; exact unhide HCK
            have hT2 : Ow wr w29.heap.size (.slice ga tails.length gc) tails := (unhide HT6).keep (unhide HFJ).1 (fun i h1 h2 => (unhide HFJ).2.1 i h1 h2)
            obtain ⟨g6, c6, at', ct, hv6, hg61, hg62, ct0, hNt, htc, hatb⟩ := hT2.at (j := j) (by rw [unhide HTLL]; exact hjl)
            obtain ⟨t, ht⟩ : ∃ t, tails.getD j [] = t := ⟨_, rfl⟩
            rw [ht] at ct0 hNt htc
            have HTJ := hide (show tails.take (j + 1) = tails.take j ++ [t] by rw [List.take_add_one, ← ht, List.getElem?_eq_getElem (show j < tails.length by rw [unhide HTLL]; exact hjl), List.getD_eq_getElem?_getD, List.getElem?_eq_getElem (show j < tails.length by rw [unhide HTLL]; exact hjl)]; rfl)
            have HLT := hide (show t.length ≤ 9 by
              have h1 : t ∈ tails := by rw [← ht, List.getD_eq_getElem?_getD, List.getElem?_eq_getElem (show j < tails.length by rw [unhide HTLL]; exact hjl)]; exact List.getElem_mem _
              exact unhide HTM t h1)
            rw [unhide HTLL] at hv6
            cases hv6
            have hg630 : g6 < w30.heap.size := by obtain ⟨cs', ho', _⟩ := unhide HT6; exact (ho'.lt g6 rfl).2
            obtain ⟨tn, htn⟩ : ∃ tn, t.length = tn := ⟨_, rfl⟩
            rw [htn] at ct0 hNt htc HLT
            have HTN := hide htn
            have HNT := hide hNt
            have hjt : (j : Int) < (tl : Int) := by omega
            have hwj : IntKind.i64.wrap ((j : Int) + 1) = (j : Int) + 1 := by have := unhide HBD; have := unhide HTLL; rw [IntKind.wrap_i64]; omega
            obtain ⟨va, vc, rfl⟩ := (unhide HOJ).shape
            obtain ⟨n3, hn3⟩ : ∃ n3, (pre ++ (tails.take j).map (fun t => x :: t)).length = n3 := ⟨_, rfl⟩
            have HN3 := hide hn3
            have hn3b : n3 ≤ 4000000 := by
              rw [← hn3, List.length_append, List.length_map, List.length_take]
              have := unhide HBD
              omega
            rw [hn3] at HOJ HFJ ⊢
            clear hT2 hNt hatb ht htn hn3
            go_wp2_with fail
            refine wp_region_held_drew (S := fun u => u.cell? ⟨g, off + k, none⟩ = some (.int .i64 x) ∧ u.cell? ⟨g6, j, none⟩ = some (.slice (some at') tn ct)) (by kernel_rfl) ⟨ck2, ct0⟩ (fun hS0 => ?_)
            have HOJ0 := hide (show Ow wr.drew w.heap.size _ _ from (unhide HOJ).below b_dr)
            have HBJ0 := hide ((unhide HBJ).drew)
            have HFJ0 := hide (show w30.heap.size ≤ wr.drew.heap.size ∧ (∀ i, w29.heap.size ≤ i → i < w30.heap.size → wr.drew.heap[i]? = w30.heap[i]?) ∧ ∀ g, (Value.slice va n3 vc).ownBlock = some g → g < w29.heap.size ∨ w30.heap.size ≤ g from unhide HFJ)
            have HNT0 := hide (show Ns wr.drew _ _ _ from unhide HNT)
            replace hgw2 : g < wr.drew.heap.size := hgw2
            replace hg62 : g6 < wr.drew.heap.size := hg62
            clear HOJ HBJ HFJ HNT ck2 ct0
            generalize wr.drew = u2 at hS0 HOJ0 HBJ0 HFJ0 HNT0 hgw2 hg62 ⊢
            have hu1 := b_al (w := u2) (.cells #[.int .i64 x] 3)
            have hown1 : (u2.alloc (.cells #[.int .i64 x] 3)).ownsRow u2.heap.size 3 1 (.slice (some ⟨u2.heap.size, 0, none⟩) 1 1) 1 (zcells [x]) := World.ownsRow_lit (size := 1) u2 #[.int .i64 x] 1 (Nat.le_refl _) (by unfold maxLen; omega) (by simp)
            obtain ⟨v48, w48, r48, own48, hg48⟩ := run_app_ints (w := u2.alloc (.cells #[.int .i64 x] 3)) u2.heap.size _ 1 [x] hown1 at' tn ct t ((unhide HNT0).below hu1) (by have := unhide HLT; omega) (by simp)
            have hu48 : Below u2.heap.size u2 w48 := hu1.grown hg48 (by simp) (fun b hb => (hown1.lt b hb).1)
            obtain ⟨g48, c48, hv48⟩ := own_form own48 (by omega)
            subst hv48
            have hl48 := own48.lt g48 rfl
            have hu49 : Below u2.heap.size u2 (w48.alloc (.cells #[.slice (some ⟨g48, 0, none⟩) (1 + tn) c48] 34)) := hu48.alloc hu48.size _
            obtain ⟨cs, ho3, h23⟩ := unhide HOJ0
            rw [unhide HN3] at ho3
            have ho349 := (owns_below' ho3 hu49)
            obtain ⟨v50, w50, r50, own50, hg50, hat50⟩ := run_app_row (w := w48.alloc (.cells #[.slice (some ⟨g48, 0, none⟩) (1 + tn) c48] 34)) w.heap.size _ n3 cs ho349 ⟨w48.heap.size, 0, none⟩ 1 (.slice (some ⟨g48, 0, none⟩) (1 + tn) c48) (by simp) rfl (by omega) (Nat.le_trans (unhide HBJ0).size hu49.size)
            have hv3lt : ∀ b, (Value.slice va n3 vc).ownBlock = some b → w.heap.size ≤ b ∧ b < u2.heap.size := fun b hb => ho3.lt b hb
            have hs49 : (w48.alloc (.cells #[.slice (some ⟨g48, 0, none⟩) (1 + tn) c48] 34)).heap.size = w48.heap.size + 1 := by simp
            have hfar50 : ∀ i, i < u2.heap.size → (Value.slice va n3 vc).ownBlock ≠ some i → w50.heap[i]? = u2.heap[i]? := fun i hi hne => by
              rw [hg50.block i (by have := hu49.size; omega) (fun e => hne e.symm), hu49.block i hi]
            have hN50 : Ns w50 (some ⟨g48, 0, none⟩) (1 + tn) (x :: t) := by
              obtain ⟨_, _, e5, _, h5⟩ := ns_of_owns own48 (by have := unhide HLT; omega)
              cases e5
              refine (h5.below (b_al (w := w48) (.cells #[.slice (some ⟨g48, 0, none⟩) (1 + tn) c48] 34))).keep0 hg50.size (fun g' off' he hg' => ?_)
              cases he
              exact hg50.block _ hg' (fun e => by have := (hv3lt _ e.symm).2; omega)
            have hc48 : 1 + tn ≤ c48 := by
              obtain ⟨_, _, e5, h5, _⟩ := ns_of_owns own48 (by have := unhide HLT; omega)
              cases e5
              exact h5
            have HOW50 := hide (show Ow w50 w.heap.size v50 ((pre ++ (tails.take j).map (fun t => x :: t)) ++ [x :: t]) from
              Ow.push (u := u2) (v := .slice va n3 vc) (cs := cs) (m := w48.heap.size + 1) (by rw [unhide HN3]; exact ho3) h23 (by have := hu48.size; omega) (by have := hg50.size; omega)
                (by rw [unhide HN3, show (x :: t).length = 1 + tn by rw [List.length_cons, unhide HTN, Nat.add_comm]]; exact own50) hfar50 (by rw [← hs49]; exact hat50)
                (by rw [show (x :: t).length = 1 + tn by rw [List.length_cons, unhide HTN, Nat.add_comm]]; exact hN50) (by rw [show (x :: t).length = 1 + tn by rw [List.length_cons, unhide HTN, Nat.add_comm]]; exact hc48)
                (fun g' off' he => by cases he; omega) (unhide HBJ0).size)
            have HB50 := hide (show Below w.heap.size w w50 from ((unhide HBJ0).trans (hu49.mono (unhide HBJ0).size)).grown hg50 (Nat.le_trans (unhide HBJ0).size hu49.size) (fun b hb => (hv3lt b hb).1))
            have HF50 := hide (show w30.heap.size ≤ w50.heap.size ∧ (∀ i, w29.heap.size ≤ i → i < w30.heap.size → w50.heap[i]? = w30.heap[i]?) ∧ ∀ g, v50.ownBlock = some g → g < w29.heap.size ∨ w30.heap.size ≤ g by
              obtain ⟨f1, f2, f3⟩ := unhide HFJ0
              have hu := hu49.size
              have hg := hg50.size
              refine ⟨by omega, fun i h1 h2 => ?_, fun g' hg' => ?_⟩
              · rw [hfar50 i (by omega) (fun e => by rcases f3 i e with h | h <;> omega)]
                exact f2 i h1 h2
              · rcases hat50 with h | h
                · exact f3 g' (by rw [← h]; exact hg')
                · rw [h] at hg'; cases hg'; right; omega)
            have q1 : (u2.alloc (.cells #[.int .i64 x] 3)).cell? ⟨g, off + k, none⟩ = some (.int .i64 x) ∧ (u2.alloc (.cells #[.int .i64 x] 3)).cell? ⟨g6, j, none⟩ = some (.slice (some at') tn ct) := ⟨by rw [hu1.cell (p := ⟨g, _, none⟩) hgw2]; exact hS0.1, by rw [hu1.cell (p := ⟨g6, _, none⟩) hg62]; exact hS0.2⟩
            have q48 : w48.cell? ⟨g, off + k, none⟩ = some (.int .i64 x) ∧ w48.cell? ⟨g6, j, none⟩ = some (.slice (some at') tn ct) := ⟨by rw [hu48.cell (p := ⟨g, _, none⟩) hgw2]; exact hS0.1, by rw [hu48.cell (p := ⟨g6, _, none⟩) hg62]; exact hS0.2⟩
            have q49 : (w48.alloc (.cells #[.slice (some ⟨g48, 0, none⟩) (1 + tn) c48] 34)).cell? ⟨g, off + k, none⟩ = some (.int .i64 x) ∧ (w48.alloc (.cells #[.slice (some ⟨g48, 0, none⟩) (1 + tn) c48] 34)).cell? ⟨g6, j, none⟩ = some (.slice (some at') tn ct) := ⟨by rw [hu49.cell (p := ⟨g, _, none⟩) hgw2]; exact hS0.1, by rw [hu49.cell (p := ⟨g6, _, none⟩) hg62]; exact hS0.2⟩
            have q50 : w50.cell? ⟨g, off + k, none⟩ = some (.int .i64 x) ∧ w50.cell? ⟨g6, j, none⟩ = some (.slice (some at') tn ct) := by
              obtain ⟨f1, f2, f3⟩ := unhide HFJ0
              refine ⟨?_, ?_⟩
              · rw [World.cell?_of_block (w := u2) (hfar50 g hgw2 (fun e => by have := (hv3lt g e).1; omega))]; exact hS0.1
              · rw [World.cell?_of_block (w := u2) (hfar50 g6 hg62 (fun e => by rcases f3 g6 e with h | h <;> omega))]; exact hS0.2
            clear hu1 hown1 own48 hg48 hu48 hl48 hu49 ho3 h23 ho349 own50 hg50 hat50 hv3lt hs49 hfar50 hN50 hc48
            refine wpAnyH_take (i := 0) (v := ?_) rfl (by kernel_rfl) (by kernel_rfl) (by kernel_rfl) (fun _ _ _ h => h) (Or.inl ⟨by rfl, ?_⟩) hS0 ?_
            rotate_left
            · intro u hu; (try dsimp only at hu); go_simp; try with_reducible rfl
            simp only [Act.put, List.getElem_toArray, List.getElem_cons_zero, List.setIfInBounds_toArray, List.set_cons_zero, List.set_cons_succ]
            refine wpAnyH_take (i := 1) (v := ?_) rfl (by kernel_rfl) (by kernel_rfl) (by kernel_rfl) (fun _ _ _ h => h) (Or.inl ⟨by rfl, ?_⟩) hS0 ?_
            rotate_left
            · intro u hu; (try dsimp only at hu); go_simp; try with_reducible rfl
            simp only [Act.put, List.getElem_toArray, List.getElem_cons_zero, List.getElem_cons_succ, List.setIfInBounds_toArray, List.set_cons_zero, List.set_cons_succ]
            refine wpAnyH_take (i := 2) (v := ?_) rfl (by kernel_rfl) (by kernel_rfl) (by kernel_rfl) (fun _ _ _ h => h) (Or.inl ⟨by rfl, ?_⟩) hS0 ?_
            rotate_left
            · intro u hu; (try dsimp only at hu); go_simp; try with_reducible rfl
            simp only [Act.put, List.getElem_toArray, List.getElem_cons_zero, List.getElem_cons_succ, List.setIfInBounds_toArray, List.set_cons_zero, List.set_cons_succ]
            refine wpAnyH_take (i := 3) (v := ?_) rfl (by kernel_rfl) (by kernel_rfl) (by kernel_rfl) (fun _ _ _ h => h) (Or.inl ⟨by rfl, ?_⟩) hS0 ?_
            rotate_left
            · intro u hu; (try dsimp only at hu); go_simp; try with_reducible rfl
            simp only [Act.put, List.getElem_toArray, List.getElem_cons_zero, List.getElem_cons_succ, List.setIfInBounds_toArray, List.set_cons_zero, List.set_cons_succ]
            refine wpAnyH_take (i := 4) (v := ?_) rfl (by kernel_rfl) (by kernel_rfl) (by kernel_rfl) (fun _ _ _ h => h) (Or.inl ⟨by rfl, ?_⟩) hS0 ?_
            rotate_left
            · intro u hu; (try dsimp only at hu); go_simp; try with_reducible rfl
            simp only [Act.put, List.getElem_toArray, List.getElem_cons_zero, List.getElem_cons_succ, List.setIfInBounds_toArray, List.set_cons_zero, List.set_cons_succ]
            refine wpAnyH_take (i := 6) (v := ?_) rfl (by kernel_rfl) (by kernel_rfl) (by kernel_rfl) (fun _ _ _ h => h) (Or.inl ⟨by rfl, ?_⟩) hS0 ?_
            rotate_left
            · intro u hu; (try dsimp only at hu); go_simp; try with_reducible rfl
            simp only [Act.put, List.getElem_toArray, List.getElem_cons_zero, List.getElem_cons_succ, List.setIfInBounds_toArray, List.set_cons_zero, List.set_cons_succ]
            refine wpAnyH_take (i := 7) (v := ?_) rfl (by kernel_rfl) (by kernel_rfl) (by kernel_rfl) (fun _ _ _ h => h) (Or.inl ⟨by rfl, ?_⟩) hS0 ?_
            rotate_left
            · intro u hu; (try dsimp only at hu); go_simp; try with_reducible rfl
            simp only [Act.put, List.getElem_toArray, List.getElem_cons_zero, List.getElem_cons_succ, List.setIfInBounds_toArray, List.set_cons_zero, List.set_cons_succ]
            refine wpAnyH_take (i := 8) (v := ?_) rfl (by kernel_rfl) (by kernel_rfl) (by kernel_rfl) (fun _ _ _ h => h) (Or.inl ⟨by rfl, ?_⟩) hS0 ?_
            rotate_left
            · intro u hu; (try dsimp only at hu); go_simp; try with_reducible rfl
            simp only [Act.put, List.getElem_toArray, List.getElem_cons_zero, List.getElem_cons_succ, List.setIfInBounds_toArray, List.set_cons_zero, List.set_cons_succ]
            refine wpAnyH_take (i := 9) (v := ?_) rfl (by kernel_rfl) (by kernel_rfl) (by kernel_rfl) (fun _ _ _ h => h) (Or.inl ⟨by rfl, ?_⟩) hS0 ?_
            rotate_left
            · intro u hu; (try dsimp only at hu); go_simp; try with_reducible rfl
            simp only [Act.put, List.getElem_toArray, List.getElem_cons_zero, List.getElem_cons_succ, List.setIfInBounds_toArray, List.set_cons_zero, List.set_cons_succ]
            refine wpAnyH_ready (rs := [5]) (by kernel_rfl) (by simp) ?_
            refine AllReadyH.cons rfl (fun K hK => ?_) AllReadyH.nil
            go_simp
            refine hK.out _ _ q1 (fun hU1 => ?_)
            clear hK K
            refine wpAnyH_ready (rs := [10]) (by kernel_rfl) (by simp) ?_
            refine AllReadyH.cons rfl (fun K hK => ?_) AllReadyH.nil
            refine Eq.mpr (if_pos rfl) ?_
            change Oper.wp Try.prog { dst := some 48, op := Op.call { callee := .builtin .append, args := #[.tmp 43, .tmp 47], argTypes := #[34, 34] }, type := 34, pos := _, after := _, guard := _ } _ _ _ _
            unfold Oper.wp execOp
            simp only [resolve, invoke, builtin, Sem.run_bind, Sem.run_pure, Result.andThen_ok, List.map_toArray, List.map_cons, List.map_nil]
            change Oper.upon _ _ _ _ _ ((Sem.run Try.prog (Builtin.append_ #[34, 34] 34 #[Value.slice (some ⟨u2.heap.size, 0, none⟩) 1 1, .slice (some at') tn ct]) _).andThen _)
            rw [r48]
            simp only [Result.andThen_ok, Oper.upon]
            refine hK.out _ _ q48 (fun hU2 => ?_)
            clear hK K
            refine wpAnyH_ready (rs := [11]) (by kernel_rfl) (by simp) ?_
            refine AllReadyH.cons rfl (fun K hK => ?_) AllReadyH.nil
            go_simp
            refine hK.out _ _ q49 (fun hU3 => ?_)
            clear hK K
            refine wpAnyH_ready (rs := [12]) (by kernel_rfl) (by simp) ?_
            refine AllReadyH.cons rfl (fun K hK => ?_) AllReadyH.nil
            refine Eq.mpr (if_pos rfl) ?_
            change Oper.wp Try.prog { dst := some 50, op := Op.call { callee := .builtin .append, args := #[.tmp 38, .tmp 49], argTypes := #[56, 56] }, type := 56, pos := _, after := _, guard := _ } _ _ _ _
            unfold Oper.wp execOp
            simp only [resolve, invoke, builtin, Sem.run_bind, Sem.run_pure, Result.andThen_ok, List.map_toArray, List.map_cons, List.map_nil]
            change Oper.upon _ _ _ _ _ ((Sem.run Try.prog (Builtin.append_ #[56, 56] 56 #[Value.slice va n3 vc, .slice (some ⟨w48.heap.size, 0, none⟩) 1 1]) _).andThen _)
            rw [r50]
            simp only [Result.andThen_ok, Oper.upon]
            refine hK.out _ _ q50 (fun hU4 => ?_)
            clear hK K
            refine wpAnyH_take (i := 13) (v := ?_) rfl (by kernel_rfl) (by kernel_rfl) (by kernel_rfl) (fun _ _ _ h => h) (Or.inl ⟨by rfl, ?_⟩) hU4 ?_
            rotate_left
            · intro u hu; (try dsimp only at hu); go_simp; try with_reducible rfl
            simp only [Act.put, List.getElem_toArray, List.getElem_cons_zero, List.getElem_cons_succ, List.setIfInBounds_toArray, List.set_cons_zero, List.set_cons_succ]
            refine wpAnyH_done (by kernel_rfl) ?_ _
            clear hU1 hU2 hU3 hU4 hS0 q1 q48 q49 q50 r48 r50
            go_wp2_with fail
            go_roundw
            case rel =>
              refine ⟨j + 1, by go_num, by omega, ?_, HB50, HF50⟩
              rw [unhide HTJ, List.map_append, ← List.append_assoc]
              exact unhide HOW50
            case measure => simp [intOf]; omega
          · obtain rfl : j = tl := by omega
            go_wp2_with fail
            go_roundw
            case rel =>
              refine ⟨k + 1, by go_num, by omega, ?_, HBJ⟩
              rw [unhide HPN]
              have := unhide HOJ
              rw [show tails.take j = tails by rw [← unhide HTLL]; exact List.take_length] at this
              exact this
            case measure => simp [intOf]; omega
      · obtain rfl : k = T := by omega
        go_wp2_with fail
        go_ret
        refine ⟨⟨_, rfl, ?_⟩, unhide HBW⟩
        have := unhide HOW
        rw [← unhide HLL] at this
        rw [← unhide HT]
        exact this
end Go.Proofs.Ytdkchihomllokaa

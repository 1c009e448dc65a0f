/-
  Edges that stand by turns: the program's Tangled, as a plain function, and its contract. Conditions: the row lies in memory as told.
-/
import Derived.Test.YtdkchihomllokaaJc9
namespace Go.Proofs.Ytdkchihomllokaa
open Go.RowKit
set_option linter.unusedVariables false
set_option maxRecDepth 20000

/-- whether heads stand by turns, with some that are open and some that are shut -/
def tgF : List Int → List Int → List Int → Bool
  | _, _, [] => false
  | op, sh, h :: hs => if h ∈ sh then true else if ix op h < 0 then tgF (op ++ [h]) sh hs else tgF (op.take ((ix op h).toNat + 1)) (sh ++ op.drop ((ix op h).toNat + 1)) hs

/-- what holds while none has been found -/
structure Tg (P op sh : List Int) : Prop where
  ord : op.Pairwise (fun x y => x ≠ y ∧ [x, y].Sublist P ∧ ¬ [y, x].Sublist P)
  op_in : ∀ x ∈ op, x ∈ P
  sh_in : ∀ s ∈ sh, ∃ p, p ≠ s ∧ [p, s, p].Sublist P
  all : ∀ h ∈ P, h ∈ op ∨ h ∈ sh
  mid : ∀ p q, p ≠ q → [p, q, p].Sublist P → q ∈ sh
  not : ∀ p q, p ≠ q → ¬ [p, q, p, q].Sublist P
theorem Tg.start : Tg [] [] [] := ⟨List.Pairwise.nil, by simp, by simp, by simp, by simp, by simp⟩
theorem sub_snoc {l P : List Int} {x h : Int} : (l ++ [x]).Sublist (P ++ [h]) ↔ (l ++ [x]).Sublist P ∨ (x = h ∧ l.Sublist P) := by
  constructor
  · intro hs
    rw [List.sublist_append_iff] at hs
    obtain ⟨l1, l2, e, h1, h2⟩ := hs
    rcases List.eq_nil_or_concat l2 with rfl | ⟨l2', y, rfl⟩
    · left; rw [List.append_nil] at e; rw [e]; exact h1
    · have hl : l2' = [] := by
        have := h2.length_le
        simp at this
        exact this
      subst hl
      have e2 : l = l1 ∧ x = y := by
        have := List.append_inj' e (by simp)
        simpa using this
      right
      obtain ⟨rfl, rfl⟩ := e2
      have : x = h := by simpa using h2
      exact ⟨this, h1⟩
  · rintro (h1 | ⟨rfl, h1⟩)
    · exact h1.trans (List.sublist_append_left _ _)
    · exact h1.append (List.Sublist.refl _)
theorem sub1 {P : List Int} {x : Int} : [x].Sublist P ↔ x ∈ P := List.singleton_sublist
theorem sub2 {P : List Int} {x y h : Int} : [x, y].Sublist (P ++ [h]) ↔ [x, y].Sublist P ∨ (y = h ∧ x ∈ P) := by
  have := sub_snoc (l := [x]) (P := P) (x := y) (h := h)
  rw [sub1] at this
  exact this
theorem sub3 {P : List Int} {x y z h : Int} : [x, y, z].Sublist (P ++ [h]) ↔ [x, y, z].Sublist P ∨ (z = h ∧ [x, y].Sublist P) := sub_snoc (l := [x, y])
theorem sub4 {P : List Int} {x y z u h : Int} : [x, y, z, u].Sublist (P ++ [h]) ↔ [x, y, z, u].Sublist P ∨ (u = h ∧ [x, y, z].Sublist P) := sub_snoc (l := [x, y, z])
theorem sub_up {l P : List Int} {h : Int} (hs : l.Sublist P) : l.Sublist (P ++ [h]) := hs.trans (List.sublist_append_left _ _)
theorem sub2_fst {P : List Int} {x y : Int} (h : [x, y].Sublist P) : x ∈ P ∧ y ∈ P := ⟨h.subset (by simp), h.subset (by simp)⟩
/-- one that isn't shut: nothing is found -/
theorem Tg.not_next {P op sh : List Int} (t : Tg P op sh) {h : Int} (hh : h ∉ sh) : ∀ p q, p ≠ q → ¬ [p, q, p, q].Sublist (P ++ [h]) := by
  intro p q hne hs
  rcases sub4.1 hs with h4 | ⟨e, h4⟩
  · exact t.not p q hne h4
  · exact hh (e ▸ t.mid p q hne h4)
/-- a new one -/
theorem Tg.new {P op sh : List Int} (t : Tg P op sh) {h : Int} (hh : h ∉ sh) (ho : h ∉ op) : Tg (P ++ [h]) (op ++ [h]) sh := by
  have hP : h ∉ P := fun hm => by rcases t.all h hm with e | e; exact ho e; exact hh e
  refine ⟨?_, ?_, ?_, ?_, ?_, t.not_next hh⟩
  · refine List.pairwise_append.2 ⟨?_, by simp, ?_⟩
    · refine t.ord.imp_of_mem (fun {x y} hx hy h1 => ⟨h1.1, sub_up h1.2.1, fun hs => ?_⟩)
      rcases sub2.1 hs with hs | ⟨e, _⟩
      · exact h1.2.2 hs
      · exact ho (e ▸ hx)
    · intro x hx y hy
      obtain rfl : y = h := by simpa using hy
      refine ⟨fun e => ho (e ▸ hx), sub2.2 (.inr ⟨rfl, t.op_in x hx⟩), fun hs => ?_⟩
      rcases sub2.1 hs with hs | ⟨e, _⟩
      · exact hP (sub2_fst hs).1
      · exact ho (e ▸ hx)
  · intro x hx
    rcases List.mem_append.1 hx with h1 | h1
    · exact List.mem_append_left _ (t.op_in x h1)
    · exact List.mem_append_right _ h1
  · intro s hs
    obtain ⟨p, h1, h2⟩ := t.sh_in s hs
    exact ⟨p, h1, sub_up h2⟩
  · intro x hx
    rcases List.mem_append.1 hx with h1 | h1
    · rcases t.all x h1 with e | e
      · exact .inl (List.mem_append_left _ e)
      · exact .inr e
    · exact .inl (List.mem_append_right _ h1)
  · intro p q hne hs
    rcases sub3.1 hs with h4 | ⟨e, h4⟩
    · exact t.mid p q hne h4
    · exact absurd (e ▸ (sub2_fst h4).1) hP
/-- one that is open -/
theorem Tg.old {P A B sh : List Int} {h : Int} (t : Tg P (A ++ h :: B) sh) (hh : h ∉ sh) : Tg (P ++ [h]) (A ++ [h]) (sh ++ B) := by
  have hord := t.ord
  rw [show A ++ h :: B = (A ++ [h]) ++ B by simp] at hord
  obtain ⟨o1, o2, o3⟩ := List.pairwise_append.1 hord
  have hA : ∀ x ∈ A, x ≠ h := fun x hx => ((List.pairwise_append.1 o1).2.2 x hx h (by simp)).1
  refine ⟨?_, ?_, ?_, ?_, ?_, t.not_next hh⟩
  · rw [List.pairwise_append] at o1 ⊢
    refine ⟨o1.1.imp_of_mem (fun {x y} hx hy h1 => ⟨h1.1, sub_up h1.2.1, fun hs => ?_⟩), by simp, fun x hx y hy => ?_⟩
    · rcases sub2.1 hs with hs | ⟨e, _⟩
      · exact h1.2.2 hs
      · exact hA x hx e
    · have h1 := o1.2.2 x hx y hy
      refine ⟨h1.1, sub_up h1.2.1, fun hs => ?_⟩
      rcases sub2.1 hs with hs | ⟨e, _⟩
      · exact h1.2.2 hs
      · exact hA x hx e
  · intro x hx
    exact List.mem_append_left _ (t.op_in x (by
      rcases List.mem_append.1 hx with h1 | h1
      · exact List.mem_append_left _ h1
      · rw [List.mem_singleton.1 h1]; simp))
  · intro s hs
    rcases List.mem_append.1 hs with h1 | h1
    · obtain ⟨p, h2, h3⟩ := t.sh_in s h1
      exact ⟨p, h2, sub_up h3⟩
    · have h2 := o3 h (by simp) s h1
      exact ⟨h, h2.1, sub3.2 (.inr ⟨rfl, h2.2.1⟩)⟩
  · intro x hx
    have h0 : x ∈ A ++ h :: B ∨ x ∈ sh := by
      rcases List.mem_append.1 hx with h1 | h1
      · exact t.all x h1
      · rw [List.mem_singleton.1 h1]; exact .inl (by simp)
    rcases h0 with h1 | h1
    · rcases List.mem_append.1 h1 with h2 | h2
      · exact .inl (List.mem_append_left _ h2)
      · rcases List.mem_cons.1 h2 with h3 | h3
        · rw [h3]; exact .inl (by simp)
        · exact .inr (List.mem_append_right _ h3)
    · exact .inr (List.mem_append_left _ h1)
  · intro p q hne hs
    rcases sub3.1 hs with h4 | ⟨rfl, h4⟩
    · exact List.mem_append_left _ (t.mid p q hne h4)
    · -- p = h, and q has stood behind an h
      rcases t.all q (sub2_fst h4).2 with h1 | h1
      · rcases List.mem_append.1 h1 with h2 | h2
        · exact absurd h4 ((List.pairwise_append.1 o1).2.2 q h2 p (by simp)).2.2
        · rcases List.mem_cons.1 h2 with h3 | h3
          · exact absurd h3.symm hne
          · exact List.mem_append_right _ h3
      · exact List.mem_append_left _ h1
theorem tgF_iff : ∀ (hs op sh P : List Int), Tg P op sh → (tgF op sh hs = true ↔ ∃ p q, p ≠ q ∧ [p, q, p, q].Sublist (P ++ hs))
  | [], op, sh, P, t => by
    unfold tgF
    rw [List.append_nil]
    constructor
    · intro h; cases h
    · rintro ⟨p, q, h1, h2⟩; exact absurd h2 (t.not p q h1)
  | h :: hs, op, sh, P, t => by
    unfold tgF
    have e : P ++ h :: hs = (P ++ [h]) ++ hs := by simp
    by_cases hh : h ∈ sh
    · rw [if_pos hh]
      refine ⟨fun _ => ?_, fun _ => rfl⟩
      obtain ⟨p, h1, h2⟩ := t.sh_in h hh
      refine ⟨p, h, h1, ?_⟩
      rw [e]
      exact (sub4.2 (.inr ⟨rfl, h2⟩)).trans (List.sublist_append_left _ _)
    · rw [if_neg hh]
      rcases ix_cases op h with ⟨h1, h2⟩ | ⟨m, h1, h2, h3, _⟩
      · rw [if_pos (by omega), e]
        exact tgF_iff hs _ _ _ (t.new hh h2)
      · rw [if_neg (by omega), e, h1]
        have hop : op = op.take m ++ h :: op.drop (m + 1) := by
          have : op[m] = h := by rw [← h3, List.getD_eq_getElem?_getD, List.getElem?_eq_getElem h2]; rfl
          conv => lhs; rw [← List.take_append_drop m op, List.drop_eq_getElem_cons h2, this]
        have ht : op.take (m + 1) = op.take m ++ [h] := by
          rw [List.take_add_one, List.getElem?_eq_getElem h2]
          have : op[m] = h := by rw [← h3, List.getD_eq_getElem?_getD, List.getElem?_eq_getElem h2]; rfl
          rw [this]; rfl
        have t2 : Tg P (op.take m ++ h :: op.drop (m + 1)) sh := hop ▸ t
        have := tgF_iff hs _ _ _ (t2.old hh)
        rw [show ((m : Int)).toNat + 1 = m + 1 by omega, ht]
        exact this
end Go.Proofs.Ytdkchihomllokaa
/-
  The contract of the program's Tangled. Conditions: the row lies in memory as told.
-/
namespace Go.Proofs.Ytdkchihomllokaa
open Go.RowKit
set_option linter.unusedVariables false
set_option maxRecDepth 20000

/-- append onto an own row of ints; where it lies then -/
theorem wpList_app_intsA {w : World} {ops : Array Oper} {rest : List Oper} {o : Oper} {a : Act} {Q : Exit → Act → World → Prop} (hgd : o.guard = none) (s x : Operand)
    (ho : o.op = .call { callee := .builtin .append, args := #[s, x], argTypes := #[34, 34] }) (base : Nat) (v : Value) (n : Nat) (xs : List Int) (hs : a.eval s = v) (hown : w.ownsRow base 3 1 v n (zcells xs))
    (p : Addr) (m c : Nat) (ys : List Int) (hx : a.eval x = .slice (some p) m c) (hys : Ns w (some p) m ys) (hb : n + m ≤ 1000000) (hbase : base ≤ w.heap.size)
    (h : ∀ v' w', w'.ownsRow base 3 1 v' (n + m) (zcells (xs ++ ys)) → w.grownBy w' v.ownBlock → (v'.ownBlock = v.ownBlock ∨ v'.ownBlock = some w.heap.size) → wpList Try.prog ops Q rest (a.put o.dst v') w') : wpList Try.prog ops Q (o :: rest) a w := by
  obtain ⟨i0, hi0, hz0, hz1, hz2⟩ := info_parts info3
  refine wpList_append_own_at w hgd s x 34 ho base 3 i0 (.int .i64 0) 1 8 Try.underlying34 hi0 hz0 hz1 hz2 rfl (by decide) v n (zcells xs) hs hown p m c (zcells ys) hx (by rw [zcells_length, hys.1]; omega) hys.cells (zcells_one ys) (by unfold maxLen; omega) (by omega) hbase ?_
  intro v' w' ho' hg _ hat
  refine h v' w' ?_ hg hat
  rw [show zcells (xs ++ ys) = zcells xs ++ zcells ys by simp [zcells]]
  exact ho'
/-- the front part of an own row -/
theorem owns_front {w : World} {base : Nat} {e : TypeId} {g : Nat} {c n : Nat} {xs : List Value} (h : w.ownsRow base e 1 (.slice (some ⟨g, 0, none⟩) n c) n xs) {m : Nat} (hm : m ≤ n) : w.ownsRow base e 1 (.slice (some ⟨g, 0, none⟩) m c) m (xs.take m) := by
  obtain ⟨h1, h2⟩ := h
  rcases h2 with ⟨hv, _⟩ | ⟨g', cap, cur, hv, hb, hg, hnc, hcm, hcs, ht⟩
  · cases hv
  · cases hv
    refine ⟨by rw [List.length_take]; omega, .inr ⟨g, c, cur, rfl, hb, hg, by omega, hcm, hcs, ?_⟩⟩
    rw [← ht, List.take_take]
    congr 1
    omega

set_option maxHeartbeats 8000000 in
theorem tangled_any (w : World) (b : Nat) (ra : Option Addr) (rc : Nat) (row : List It) (hf : w.cell? ⟨b, 0, none⟩ = some (.slice ra row.length rc)) (hR : Is w ra row) (hn : row.length ≤ 1000) :
    Calls Try.prog 20 #[.pointer (some ⟨b, 0, none⟩)] w fun e w' => e = .returned (.bool (tgF [] [] ((bnF row).map Bn.head))) ∧ Below w.heap.size w w' := by
  have C := hide (bunches_any w b ra rc row hf hR hn)
  have hbl : (bnF row).length ≤ 1000 := Nat.le_trans (bnK_len row row.length) hn
  obtain ⟨l, hl⟩ : ∃ l, bnF row = l := ⟨_, rfl⟩
  rw [hl] at C hbl ⊢
  obtain ⟨hs, hhs⟩ : ∃ hs, l.map Bn.head = hs := ⟨_, rfl⟩
  rw [hhs]
  have HHS := hide hhs
  obtain ⟨m, hm⟩ : ∃ m, l.length = m := ⟨_, rfl⟩
  rw [hm] at C hbl
  have HM := hide hm
  clear hf hR hl hhs hm
  go_enter Try.func20, Try.ntmps20
  go_wp2_with fail
  refine (unhide C).mono ?_
  rintro e w1 ⟨⟨v, rfl, ho⟩, hb1⟩
  obtain ⟨va, vc, rfl, hx1, hx2, hB, hx3⟩ := cr_of_owns ho (by omega)
  clear hx1 hx2 hx3
  have HBS := hide (show Bs w1 va l by unfold Bs; rw [unhide HM]; exact hB)
  have HB1 := hide hb1
  clear ho hb1 hB C
  go_wp2_with fail
  go_loopw [3, 4, 11] (fun v3 v4 i wr => ∃ (k : Nat) (op sh : List Int), i = .int .i64 k ∧ k ≤ m ∧ op.length + sh.length ≤ k ∧ Hid (wr.ownsRow w1.heap.size 3 1 v3 op.length (zcells op)) ∧ Hid (wr.ownsRow w1.heap.size 3 1 v4 sh.length (zcells sh)) ∧ Hid (∀ g, v3.ownBlock = some g → v4.ownBlock ≠ some g) ∧ Hid (Below w1.heap.size w1 wr) ∧ Hid (tgF [] [] hs = tgF op sh (hs.drop k))) (fun v3 v4 i wr => m - (intOf i).toNat)
  case atStart => exact ⟨0, [], [], rfl, by omega, by simp, World.ownsRow_nil _ _ _ _, World.ownsRow_nil _ _ _ _, fun g hg => by simp [Value.ownBlock] at hg, Below.refl _ _, rfl⟩
  case round =>
    obtain ⟨k, op, sh, rfl, hk, hlen, HO3, HO4, HNE, HB, HT⟩ := hrel
    by_cases hlt : k < m
    · obtain ⟨g, off, ha, hg, c0, c1, c2, c3⟩ := ((unhide HBS).below (unhide HB)).at (show k < l.length by rw [unhide HM]; exact hlt)
      have HDR := hide (show hs.drop k = (l.getD k b0).head :: hs.drop (k + 1) by
        have hk2 : k < hs.length := by rw [← unhide HHS, List.length_map, unhide HM]; exact hlt
        rw [List.drop_eq_getElem_cons hk2]
        congr 1
        have h2 : hs[k] = hs.getD k 0 := by rw [List.getD_eq_getElem?_getD, List.getElem?_eq_getElem hk2]; rfl
        rw [h2, ← unhide HHS, List.getD_eq_getElem?_getD, List.getElem?_map, List.getD_eq_getElem?_getD, List.getElem?_eq_getElem (show k < l.length by rw [unhide HM]; exact hlt)]
        rfl)
      generalize l.getD k b0 = bn at c0 c1 c2 c3 HDR
      obtain ⟨h, ct, lo, hi⟩ := bn
      simp only at c0 c1 c2 c3
      have HDR' := hide (show hs.drop k = h :: hs.drop (k + 1) from unhide HDR)
      subst ha
      obtain ⟨oa, oc, rfl⟩ := own_shape (unhide HO3)
      obtain ⟨sa, sc, rfl⟩ := own_shape (unhide HO4)
      have hkm : (k : Int) < (m : Int) := by omega
      have hwk : IntKind.i64.wrap ((k : Int) + 1) = (k : Int) + 1 := by rw [IntKind.wrap_i64]; omega
      obtain ⟨on, hon⟩ : ∃ on, op.length = on := ⟨_, rfl⟩
      obtain ⟨sn, hsn⟩ : ∃ sn, sh.length = sn := ⟨_, rfl⟩
      rw [hon] at HO3 HNE ⊢
      rw [hsn] at HO4 HNE ⊢
      rw [hon, hsn] at hlen
      have hb2 := b_al (w := wr) (.cells #[.int .i64 h, .int .i64 (ct : Nat), .int .i64 (lo : Nat), .int .i64 (hi : Nat)] 79)
      have hNS : Ns (wr.alloc (.cells #[.int .i64 h, .int .i64 (ct : Nat), .int .i64 (lo : Nat), .int .i64 (hi : Nat)] 79)) sa sn sh := by
        obtain ⟨_, _, e, _, hN⟩ := ns_of_owns (unhide HO4) (by omega)
        cases e
        exact hN.below hb2
      have hNO : Ns (wr.alloc (.cells #[.int .i64 h, .int .i64 (ct : Nat), .int .i64 (lo : Nat), .int .i64 (hi : Nat)] 79)) oa on op := by
        obtain ⟨_, _, e, _, hN⟩ := ns_of_owns (unhide HO3) (by omega)
        cases e
        exact hN.below hb2
      have CS := hide (contains_any _ sa sn sc sh h hNS)
      have CI := hide (index_any _ oa on oc op h hNO)
      have HNO := hide hNO
      have HB2 := hide ((unhide HB).trans (hb2.mono (unhide HB).size))
      have HON := hide hon
      have HSN := hide hsn
      have HSZ := hide (unhide HB).size
      clear hNS hNO hb2 hon hsn HDR
      by_cases hsh : h ∈ sh
      · rw [decide_eq_true hsh] at CS
        have HSH := hide hsh
        clear hsh CI
        go_wp2_with fail
        refine (unhide CS).mono ?_
        rintro e w3 ⟨rfl, rfl⟩
        go_wp2_with fail
        go_ret
        refine ⟨ret_b ?_, (unhide HB1).trans ((unhide HB2).mono (unhide HB1).size)⟩
        rw [unhide HT, unhide HDR']
        unfold tgF
        rw [if_pos (unhide HSH)]
      · rw [decide_eq_false hsh] at CS
        have HSH := hide hsh
        clear hsh
        go_wp2_with fail
        refine (unhide CS).mono ?_
        rintro e w3 ⟨rfl, hw3⟩
        subst hw3
        clear CS
        rcases ix_cases op h with ⟨hi1, hi2⟩ | ⟨m0, hi1, hi2, hi3, _⟩
        · rw [hi1] at CI
          have HT2 := hide (show tgF [] [] hs = tgF (op ++ [h]) sh (hs.drop (k + 1)) by
            rw [unhide HT, unhide HDR']
            conv => lhs; unfold tgF
            rw [if_neg (unhide HSH), if_pos (by omega)])
          clear hi1 hi2
          go_wp2_with fail
          refine (unhide CI).mono ?_
          rintro e w4 ⟨rfl, hw4⟩
          subst hw4
          clear CI
          go_wp2_with (at_builtin; refine wpList_app_intsA rfl (.tmp 25) (.tmp 28) rfl w1.heap.size _ on op rfl (((unhide HO3).alloc _).alloc _) ⟨wr.heap.size + 1, 0, none⟩ 1 1 [h] rfl (by have := ns_lit (wr.alloc (.cells #[.int .i64 h, .int .i64 (ct : Nat), .int .i64 (lo : Nat), .int .i64 (hi : Nat)] 79)) h; simp only [World.size_alloc] at this; exact this) (by omega) (by have := unhide HSZ; simp; omega) ?_)
          intro v' w' own' hg' hat
          have hb3 : Below w1.heap.size w1 ((wr.alloc (.cells #[.int .i64 h, .int .i64 (ct : Nat), .int .i64 (lo : Nat), .int .i64 (hi : Nat)] 79)).alloc (.cells #[.int .i64 h] 3)) := (unhide HB2).alloc (unhide HB2).size _
          have HB4 := hide (hb3.grown hg' hb3.size (fun b hb => ((unhide HO3).lt b hb).1))
          have HP3 := hide (show w'.ownsRow w1.heap.size 3 1 v' (op ++ [h]).length (zcells (op ++ [h])) by rw [List.length_append, unhide HON]; exact own')
          have HP4 := hide (show w'.ownsRow w1.heap.size 3 1 (.slice sa sn sc) sh.length (zcells sh) by
            rw [unhide HSN]
            refine owns_keep (((unhide HO4).alloc (.cells #[.int .i64 h, .int .i64 (ct : Nat), .int .i64 (lo : Nat), .int .i64 (hi : Nat)] 79)).alloc (.cells #[.int .i64 h] 3)) (fun g' hg2 => hg'.block g' (by have := ((unhide HO4).lt g' hg2).2; simp; omega) (fun e => unhide HNE g' e.symm hg2)))
          have HNE2 := hide (show ∀ g, v'.ownBlock = some g → (Value.slice sa sn sc).ownBlock ≠ some g from fun g' hg2 e => by
            rcases hat with h1 | h1
            · rw [h1] at hg2; exact unhide HNE g' hg2 e
            · rw [h1] at hg2; cases hg2; have := ((unhide HO4).lt _ e).2; omega)
          have hlen2 : (op ++ [h]).length + sh.length ≤ k + 1 := by rw [List.length_append, unhide HON, unhide HSN]; simp; omega
          have HLEN := hide hlen2
          clear own' hg' hat hb3 hlen2
          go_wp2_with fail
          go_roundw
          case rel => exact ⟨k + 1, op ++ [h], sh, by go_num, by omega, unhide HLEN, HP3, HP4, HNE2, HB4, HT2⟩
          case measure => simp [intOf]; omega
        · rw [hi1] at CI
          obtain ⟨ga, oc', hov⟩ := own_form (unhide HO3) (by have := unhide HON; omega)
          cases hov
          have hm0 : m0 < on := by rw [← unhide HON]; exact hi2
          have hoc : on ≤ oc := by
            obtain ⟨_, _, e, h1, _⟩ := ns_of_owns (unhide HO3) (by omega)
            cases e
            exact h1
          have HT2 := hide (show tgF [] [] hs = tgF (op.take (m0 + 1)) (sh ++ op.drop (m0 + 1)) (hs.drop (k + 1)) by
            rw [unhide HT, unhide HDR']
            conv => lhs; unfold tgF
            rw [if_neg (unhide HSH), if_neg (by omega), hi1, show ((m0 : Int)).toNat + 1 = m0 + 1 by omega])
          obtain ⟨ta, hta⟩ : ∃ ta, (if oc = m0 + 1 then some (⟨ga, 0, none⟩ : Addr) else some ⟨ga, m0 + 1, none⟩) = ta := ⟨_, rfl⟩
          obtain ⟨ta', hta', htb⟩ : ∃ ta' : Addr, ta = some ta' ∧ (m0 + 1 < on → ta' = ⟨ga, 0 + (m0 + 1), none⟩) := by
            by_cases h2 : oc = m0 + 1
            · rw [if_pos h2] at hta
              exact ⟨_, hta.symm, fun h3 => by omega⟩
            · rw [if_neg h2] at hta
              exact ⟨_, hta.symm, fun _ => by rw [Nat.zero_add]⟩
          have HDN := hide ((unhide HNO).drop (m := m0 + 1) (by omega) ta' htb)
          have HTA := hide hta
          have HTA' := hide hta'
          have h01 : (0 : Int) ≤ (m0 : Int) + 1 := by omega
          have h02 : (m0 : Int) + 1 ≤ (on : Int) := by omega
          have h03 : (m0 : Int) + 1 ≤ (oc : Int) := by omega
          have h04 : (on : Int) ≤ (oc : Int) := by omega
          have h05 : ¬ (m0 : Int) < 0 := by omega
          have hwm : IntKind.i64.wrap ((m0 : Int) + 1) = (m0 : Int) + 1 := by rw [IntKind.wrap_i64]; omega
          clear hi1 hi2 hi3 hta hta' htb
          go_wp2_with fail
          refine (unhide CI).mono ?_
          rintro e w4 ⟨rfl, hw4⟩
          subst hw4
          clear CI
          go_wp2_with (at_builtin; try rw [unhide HTA, unhide HTA']; refine wpList_app_intsA rfl (.tmp 30) (.tmp 34) rfl w1.heap.size _ sn sh rfl ((unhide HO4).alloc _) ta' (on - (m0 + 1)) (oc - (m0 + 1)) (op.drop (m0 + 1)) (by first | rfl | (rw [← unhide HTA', ← unhide HTA]; rfl)) (unhide HDN) (by omega) (by have := unhide HSZ; simp; omega) ?_)
          intro v' w' own' hg' hat
          have HB4 := hide ((unhide HB2).grown hg' (unhide HB2).size (fun b hb => ((unhide HO4).lt b hb).1))
          have ho3w : w'.ownsRow w1.heap.size 3 1 (.slice (some ⟨ga, 0, none⟩) on oc) on (zcells op) := owns_keep ((unhide HO3).alloc (.cells #[.int .i64 h, .int .i64 (ct : Nat), .int .i64 (lo : Nat), .int .i64 (hi : Nat)] 79)) (fun g' hg2 => hg'.block g' (by have := ((unhide HO3).lt g' hg2).2; simp; omega) (fun e => unhide HNE g' hg2 e.symm))
          have HP3 := hide (show w'.ownsRow w1.heap.size 3 1 (.slice (some ⟨ga, 0, none⟩) (m0 + 1) oc) (op.take (m0 + 1)).length (zcells (op.take (m0 + 1))) by
            rw [List.length_take, unhide HON, show min (m0 + 1) on = m0 + 1 by omega]
            have := owns_front ho3w (m := m0 + 1) (by omega)
            rw [show (zcells op).take (m0 + 1) = zcells (op.take (m0 + 1)) by simp [zcells]] at this
            exact this)
          have HP4 := hide (show w'.ownsRow w1.heap.size 3 1 v' (sh ++ op.drop (m0 + 1)).length (zcells (sh ++ op.drop (m0 + 1))) by
            rw [List.length_append, List.length_drop, unhide HON, unhide HSN]; exact own')
          have HNE2 := hide (show ∀ g, (Value.slice (some ⟨ga, 0, none⟩) (m0 + 1) oc).ownBlock = some g → v'.ownBlock ≠ some g from fun g' hg2 e => by
            have hg3 : (Value.slice (some ⟨ga, 0, none⟩) on oc).ownBlock = some g' := hg2
            rcases hat with h1 | h1
            · rw [h1] at e; exact unhide HNE g' hg3 e
            · rw [h1] at e; cases e; have := ((unhide HO3).lt _ hg3).2; first | omega | (simp at this) | (simp at this; omega))
          have hlen2 : (op.take (m0 + 1)).length + (sh ++ op.drop (m0 + 1)).length ≤ k + 1 := by
            rw [List.length_append, List.length_take, List.length_drop, unhide HON, unhide HSN]; omega
          have HLEN := hide hlen2
          clear own' hg' hat hlen2 ho3w
          go_wp2_with fail
          go_roundw
          case rel => exact ⟨k + 1, op.take (m0 + 1), sh ++ op.drop (m0 + 1), by go_num, by omega, unhide HLEN, HP3, HP4, HNE2, HB4, HT2⟩
          case measure => simp [intOf]; omega
    · obtain rfl : k = m := by omega
      go_wp2_with fail
      go_ret
      refine ⟨ret_b ?_, (unhide HB1).trans ((unhide HB).mono (unhide HB1).size)⟩
      rw [unhide HT, show hs.drop k = [] by rw [← unhide HHS, ← unhide HM]; simp]
      rfl
end Go.Proofs.Ytdkchihomllokaa
/-
  Rows in which edges stand by turns: they stay so, and never all vertices are placed. No conditions.
-/
namespace Go.Proofs.Ytdkchihomllokaa
open Go.RowKit
set_option linter.unusedVariables false
set_option maxRecDepth 20000

/-- four items of a row by turns -/
def TgR (row : List It) : Prop := ∃ a b c d : It, [a, b, c, d].Sublist row ∧ 0 ≤ a.2.2 ∧ 0 ≤ b.2.2 ∧ a.2.2 ≠ b.2.2 ∧ a.2.2 = c.2.2 ∧ b.2.2 = d.2.2
/-- the heads of the edges -/
def hds (l : List It) : List Int := (l.filter isEt).map fun t => t.2.2
theorem hds_snoc (l : List It) (t : It) : hds (l ++ [t]) = if isEt t = true then hds l ++ [t.2.2] else hds l := by
  unfold hds
  rw [List.filter_append]
  by_cases h : isEt t = true
  · rw [if_pos h]; simp [h]
  · rw [if_neg h]; simp [h]
theorem bnStep_hds (bs : List Bn) (i : Nat) (t : It) : (bnStep bs i t).map Bn.head = if isEt t = true then (if (bs.map Bn.head).getLast? = some t.2.2 then bs.map Bn.head else bs.map Bn.head ++ [t.2.2]) else bs.map Bn.head := by
  unfold bnStep
  by_cases h : t.1 = -1
  · rw [if_pos h, if_neg (by unfold isEt; simp [h])]
  · rw [if_neg h, if_pos (by unfold isEt; simp [h])]
    rcases List.eq_nil_or_concat bs with rfl | ⟨bs', b, rfl⟩
    · simp
    · simp only [List.concat_eq_append, List.getLast?_append, List.getLast?_singleton, Option.some_or, List.map_append, List.map_cons, List.map_nil, List.dropLast_concat]
      by_cases e : b.head = t.2.2
      · rw [if_pos e, if_pos (by rw [e])]; simp [e]
      · rw [if_neg e, if_neg (fun h => e (Option.some.inj h))]; simp
/-- the bunches' heads: each once where it stands several times in a row -/
theorem alt_sub (l : List Int) (hl : ∀ x y l1 l2, l = l1 ++ x :: y :: l2 → x ≠ y) : ∀ (row : List It) (k : Nat), k ≤ row.length → (l.Sublist ((bnK row k).map Bn.head) ↔ l.Sublist (hds (row.take k))) := by
  intro row k
  induction k generalizing l with
  | zero => intro _; simp [bnK, hds]
  | succ k ih =>
    intro hk
    have e : row.take (k + 1) = row.take k ++ [row.getD k (0, 0, 0)] := by rw [List.take_add_one, List.getElem?_eq_getElem (show k < row.length by omega), gd (show k < row.length by omega)]; rfl
    rw [e, hds_snoc]
    show l.Sublist ((bnStep (bnK row k) k (row.getD k (0, 0, 0))).map Bn.head) ↔ _
    rw [bnStep_hds]
    generalize row.getD k (0, 0, 0) = t
    by_cases ht : isEt t = true
    · rw [if_pos ht, if_pos ht]
      have h2 := ih l hl (by omega)
      rcases List.eq_nil_or_concat l with rfl | ⟨l', x, hlx⟩
      · simp
      · rw [List.concat_eq_append] at hlx
        have hl' : ∀ x y l1 l2, l' = l1 ++ x :: y :: l2 → x ≠ y := fun a b l1 l2 e => hl a b l1 (l2 ++ [x]) (by rw [hlx, e]; simp)
        have h3 := ih l' hl' (by omega)
        rw [hlx] at h2 ⊢
        rw [sub_snoc (P := hds (row.take k))]
        by_cases hlast : ((bnK row k).map Bn.head).getLast? = some t.2.2
        · rw [if_pos hlast, h2]
          constructor
          · exact fun h => .inl h
          · rintro (h | ⟨rfl, h⟩)
            · exact h
            · -- the last one is there already
              rw [← h2]
              rcases List.eq_nil_or_concat ((bnK row k).map Bn.head) with h0 | ⟨M, z, hM⟩
              · rw [h0] at hlast; simp at hlast
              · rw [List.concat_eq_append] at hM
                rw [hM] at hlast
                have hz : z = t.2.2 := by simpa using hlast
                subst hz
                rw [hM]
                have h4 := h3.2 h
                rw [hM] at h4
                rcases List.eq_nil_or_concat l' with rfl | ⟨l'', y, hy⟩
                · simp
                · rw [List.concat_eq_append] at hy
                  rw [hy] at h4
                  rcases sub_snoc.1 h4 with h5 | ⟨h5, _⟩
                  · rw [← hy] at h5
                    exact h5.append (List.Sublist.refl _)
                  · exact absurd h5 (hl y t.2.2 l'' [] (by rw [hlx, hy]; simp))
        · rw [if_neg hlast, sub_snoc, h2, h3]
    · rw [if_neg ht, if_neg ht]
      exact ih l hl (by omega)
theorem alt4 {p q : Int} (h : p ≠ q) : ∀ x y l1 l2, [p, q, p, q] = l1 ++ x :: y :: l2 → x ≠ y := by
  intro x y l1 l2 e
  match l1, e with
  | [], e => simp at e; obtain ⟨rfl, rfl, _⟩ := e; exact h
  | [_], e => simp at e; obtain ⟨_, rfl, rfl, _⟩ := e; exact fun e => h e.symm
  | [_, _], e => simp at e; obtain ⟨_, _, rfl, rfl, _⟩ := e; exact h
  | _ :: _ :: _ :: l, e =>
    have := congrArg List.length e
    simp at this
    omega
/-- the program's Tangled is the document's -/
theorem tg_row {V : Nat} {es : List (Nat × Nat)} {src : Nat} {row : List It} {pl : List Nat} (hI : Inv V es src row pl) : tgF [] [] ((bnF row).map Bn.head) = true ↔ TgR row := by
  rw [tgF_iff _ _ _ _ Tg.start, List.nil_append]
  constructor
  · rintro ⟨p, q, hne, hs⟩
    have h1 := (alt_sub _ (alt4 hne) row row.length (Nat.le_refl _)).1 hs
    rw [List.take_length] at h1
    unfold hds at h1
    obtain ⟨l, hl, he⟩ := List.sublist_map_iff.1 h1
    have hlen : l.length = 4 := by have := congrArg List.length he; simpa using this.symm
    match l, hlen, he with
    | [a, b, c, d], _, he =>
      simp at he
      obtain ⟨h2, h3, h4, h5⟩ := he
      have hsub := hl.trans List.filter_sublist
      have hpos : ∀ t ∈ [a, b, c, d], 0 ≤ t.2.2 := fun t ht => by
        have hm := hl.subset ht
        have hE : isEt t = true := (List.mem_filter.1 hm).2
        rcases hI.item t (List.mem_filter.1 hm).1 with ⟨e, _⟩ | ⟨i, _, e, _⟩
        · unfold isEt at hE; rw [e] at hE; simp at hE
        · rw [e]; unfold itemAt; simp
      exact ⟨a, b, c, d, hsub, hpos a (by simp), hpos b (by simp), by rw [← h2, ← h3]; exact hne, by rw [← h2, ← h4], by rw [← h3, ← h5]⟩
  · rintro ⟨a, b, c, d, hs, ha, hb, hne, hac, hbd⟩
    refine ⟨a.2.2, b.2.2, hne, ?_⟩
    refine (alt_sub _ (alt4 hne) row row.length (Nat.le_refl _)).2 ?_
    rw [List.take_length]
    unfold hds
    have hE : ∀ t ∈ row, 0 ≤ t.2.2 → isEt t = true := fun t ht h0 => by
      rcases hI.item t ht with ⟨_, e⟩ | ⟨i, _, e, _⟩
      · omega
      · rw [e]; exact item_e _ _ _
    have h1 := (hs.filter isEt).map (fun t : It => t.2.2)
    have h2 : [a, b, c, d].filter isEt = [a, b, c, d] := by
      rw [List.filter_eq_self]
      intro t ht
      refine hE t (hs.subset ht) ?_
      simp at ht
      rcases ht with rfl | rfl | rfl | rfl
      · exact ha
      · exact hb
      · omega
      · omega
    rw [h2] at h1
    simp only [List.map_cons, List.map_nil, ← hac, ← hbd] at h1
    exact h1
/-- of three items by turns the middle one isn't the vertex that is ready -/
theorem tg_mid {V : Nat} {es : List (Nat × Nat)} {src : Nat} {row : List It} {pl : List Nat} (hI : Inv V es src row pl) {y : Nat} {A Y C : List It} (hr : Rdy V es row y A Y C) {a b c : It} (hs : [a, b, c].Sublist row) (hb : 0 ≤ b.2.2) (hac : a.2.2 = c.2.2) (hab : a.2.2 ≠ b.2.2) : a.2.2 ≠ (y : Int) := by
  intro hy
  have hin : ∀ t ∈ row, t.2.2 = (y : Int) → pE y t = true := fun t ht e => (hI.head_e ht).1.1 e
  have ma : a ∈ row := hs.subset (by simp)
  have mb : b ∈ row := hs.subset (by simp)
  have mc : c ∈ row := hs.subset (by simp)
  have hs2 := hs
  rw [hr.eq, List.sublist_append_iff] at hs2
  obtain ⟨l1, l2, e, h1, h2⟩ := hs2
  have hl1 : l1 = [] := by
    cases l1 with
    | nil => rfl
    | cons z l1 =>
      simp at e
      obtain ⟨rfl, _⟩ := e
      have := hr.outA a (h1.subset (by simp))
      rw [hin a ma hy] at this; cases this
  subst hl1
  rw [List.nil_append] at e
  subst e
  rw [List.sublist_append_iff] at h2
  obtain ⟨l1, l2, e, h1, h2⟩ := h2
  have hl2 : l2 = [] := by
    rcases List.eq_nil_or_concat l2 with h | ⟨l, z, h⟩
    · exact h
    · rw [List.concat_eq_append] at h
      rw [h] at e
      have e2 : [a, b] = l1 ++ l ∧ c = z := by
        have := List.append_inj' (show [a, b] ++ [c] = (l1 ++ l) ++ [z] by rw [List.append_assoc]; exact e) rfl
        simpa using this
      have hz : c ∈ C := h2.subset (by rw [h, e2.2]; simp)
      have := hr.outC c hz
      rw [hin c mc (hac ▸ hy)] at this; cases this
  subst hl2
  rw [List.append_nil] at e
  subst e
  have hbY : b ∈ Y := h1.subset (by simp)
  rcases hr.mid b hbY with h | h
  · rcases hI.item b mb with ⟨_, e⟩ | ⟨i, _, e, _⟩
    · omega
    · rw [e] at h; unfold itemAt at h; simp at h
  · exact hab (by rw [hy, h])
theorem TgR.step {V : Nat} {es : List (Nat × Nat)} {src : Nat} {row : List It} {pl : List Nat} (hI : Inv V es src row pl) (t : TgR row) {x : Int} {zs : List Int} {ends row2 : List It} {pl2 : List Nat} (hP : Placed V es src row pl x zs 0 ends row2 pl2) : TgR row2 := by
  obtain ⟨a, b, c, d, hs, ha, hb, hne, hac, hbd⟩ := t
  obtain ⟨y, o, _, _, _, _, _, _, h⟩ := hP.at0
  rcases h with ⟨h1, _⟩ | ⟨_, A, C, hr, rfl⟩
  · rw [hI.e0 h1] at hs; simp at hs
  · refine ⟨a, b, c, d, ?_, ha, hb, hne, hac, hbd⟩
    have hya := tg_mid hI hr ((show [a, b, c].Sublist [a, b, c, d] from by simp).trans hs) hb hac hne
    have hyb := tg_mid hI hr ((show [b, c, d].Sublist [a, b, c, d] from by simp).trans hs) (by omega) hbd (by omega)
    have hf : ∀ t ∈ [a, b, c, d], (decide (t.2.2 ≠ (y : Int) ∧ 0 ≤ t.2.2)) = true := fun t ht => by
      rw [decide_eq_true_eq]
      simp at ht
      rcases ht with rfl | rfl | rfl | rfl
      · exact ⟨hya, ha⟩
      · exact ⟨hyb, hb⟩
      · exact ⟨by omega, by omega⟩
      · exact ⟨by omega, by omega⟩
    have h1 := hs.filter (fun t => decide (t.2.2 ≠ (y : Int) ∧ 0 ≤ t.2.2))
    rw [List.filter_eq_self.2 hf, hr.eq, List.filter_append, List.filter_append] at h1
    have hY : ends.filter (fun t => decide (t.2.2 ≠ (y : Int) ∧ 0 ≤ t.2.2)) = [] := by
      rw [List.filter_eq_nil_iff]
      intro t ht hc
      rw [decide_eq_true_eq] at hc
      rcases hr.mid t ht with h | h
      · rcases hI.item t (by rw [hr.eq]; simp [ht]) with ⟨_, e⟩ | ⟨i, _, e, _⟩
        · omega
        · rw [e] at h; unfold itemAt at h; simp at h
      · exact hc.1 h
    rw [hY, List.nil_append] at h1
    exact h1.trans (List.Sublist.append List.filter_sublist (List.filter_sublist.trans (List.sublist_append_right _ _)))
theorem TgR.left {V : Nat} {es : List (Nat × Nat)} {src : Nat} {row : List It} {pl : List Nat} (hI : Inv V es src row pl) (hp : Plain V es) (t : TgR row) : pl.length ≠ V := by
  obtain ⟨a, b, c, d, hs, ha, _⟩ := t
  intro e
  have ma : a ∈ row := hs.subset (by simp)
  rcases hI.item a ma with ⟨_, e2⟩ | ⟨i, hi, _, _, hn⟩
  · omega
  · have hlt := (hp.at hi).2
    exact hn (nodup_full hI.nd (m := List.range V) (fun z hz => List.mem_range.2 (hI.lt z hz)) (by simp [e]) _ (List.mem_range.2 (by omega)))
theorem TgR.never {V : Nat} {es : List (Nat × Nat)} {src : Nat} (hp : Plain V es) (hsrc : bare (Pl.ins es) V = [src]) : ∀ (n : Nat) (row : List It) (pl : List Nat), Inv V es src row pl → TgR row → ¬ CanR V es src n row pl
  | 0, row, pl, hI, t, h => t.left hI hp h
  | n + 1, row, pl, hI, t, h => by
    rcases h with h | ⟨y, zs, ends, row2, pl2, hP, hC⟩
    · exact t.left hI hp h
    · exact TgR.never hp hsrc n row2 pl2 (hP.inv hI hp hsrc) (t.step hI hP) hC
end Go.Proofs.Ytdkchihomllokaa

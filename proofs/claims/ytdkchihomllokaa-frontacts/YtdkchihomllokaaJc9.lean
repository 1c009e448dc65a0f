/-
  The contract of the document's Copy. Conditions: the document's front lies in memory as told.
-/
import Derived.Test.YtdkchihomllokaaJr9
import Derived.Test.YtdkchihomllokaaTw9
import Derived.Test.YtdkchihomllokaaRq9
import Derived.Test.YtdkchihomllokaaWs9
namespace Go.Proofs.Ytdkchihomllokaa
open Go.RowKit
set_option linter.unusedVariables false
set_option maxRecDepth 20000

theorem run_app_itsO {w : World} (base : Nat) (v : Value) (n : Nat) (xs : List It) (hown : w.ownsRow base 72 3 v n (icells xs))
    (ad : Option Addr) (m c : Nat) (ys : List It) (hm : ys.length = m) (hno : ad = none → m = 0 ∧ c = 0) (hys : Is w ad ys) (hb : n + m ≤ 1000000) (hbase : base ≤ w.heap.size) :
    ∃ v' w', Sem.run Try.prog (Builtin.append_ #[33, 33] 33 #[v, .slice ad m c]) w = .ok v' w' ∧ w'.ownsRow base 72 3 v' (n + m) (icells (xs ++ ys)) ∧ w.grownBy w' v.ownBlock ∧ (v'.ownBlock = v.ownBlock ∨ v'.ownBlock = some w.heap.size) := by
  obtain ⟨i0, hi0, hz0, hz1, hz2⟩ := info_parts info72
  cases ad with
  | none =>
    obtain ⟨rfl, rfl⟩ := hno rfl
    have : ys = [] := by simpa using hm
    subst this
    refine ⟨v, w, run_append_owned_none (P := Try.prog) (w := w) base 33 33 72 i0 3 Try.underlying33 hi0 v n (icells xs) hown, by rw [List.append_nil]; exact hown, ⟨rfl, rfl, rfl, Nat.le_refl _, fun _ _ _ => rfl⟩, .inl rfl⟩
  | some p =>
    obtain ⟨v8, w8, r8, own8, hg8, _, hat⟩ := run_append_own_at (P := Try.prog) w base 33 33 72 i0 (.agg #[.int .i64 0, .int .i64 0, .int .i64 0]) 3 24 Try.underlying33 hi0 hz0 hz1 hz2 rfl (by decide) v n (icells xs) hown p m c (icells ys) (by rw [icells_length, hm]) (Cr.cells hys) (icells_one ys) (by unfold maxLen; omega) (by omega) hbase
    exact ⟨v8, w8, r8, by rw [icells_append]; exact own8, hg8, hat⟩
theorem run_app_intsO {w : World} (base : Nat) (v : Value) (n : Nat) (xs : List Int) (hown : w.ownsRow base 3 1 v n (zcells xs))
    (ad : Option Addr) (m c : Nat) (ys : List Int) (hno : ad = none → m = 0 ∧ c = 0) (hys : Ns w ad m ys) (hb : n + m ≤ 1000000) (hbase : base ≤ w.heap.size) :
    ∃ v' w', Sem.run Try.prog (Builtin.append_ #[34, 34] 34 #[v, .slice ad m c]) w = .ok v' w' ∧ w'.ownsRow base 3 1 v' (n + m) (zcells (xs ++ ys)) ∧ w.grownBy w' v.ownBlock ∧ (v'.ownBlock = v.ownBlock ∨ v'.ownBlock = some w.heap.size) := by
  obtain ⟨i0, hi0, hz0, hz1, hz2⟩ := info_parts info3
  cases ad with
  | none =>
    obtain ⟨rfl, rfl⟩ := hno rfl
    have : ys = [] := by have := hys.1; simpa using this
    subst this
    refine ⟨v, w, run_append_owned_none (P := Try.prog) (w := w) base 34 34 3 i0 1 Try.underlying34 hi0 v n (zcells xs) hown, by rw [List.append_nil]; exact hown, ⟨rfl, rfl, rfl, Nat.le_refl _, fun _ _ _ => rfl⟩, .inl rfl⟩
  | some p =>
    obtain ⟨v8, w8, r8, own8, hg8, _, hat⟩ := run_append_own_at (P := Try.prog) w base 34 34 3 i0 (.int .i64 0) 1 8 Try.underlying34 hi0 hz0 hz1 hz2 rfl (by decide) v n (zcells xs) hown p m c (zcells ys) (by rw [zcells_length, hys.1]; omega) hys.cells (zcells_one ys) (by unfold maxLen; omega) (by omega) hbase
    exact ⟨v8, w8, r8, by rw [show zcells (xs ++ ys) = zcells xs ++ zcells ys by simp [zcells]]; exact own8, hg8, hat⟩

/-- a front's copy -/
def CpTold (V : Nat) (a : Option Addr) (cap : Nat) (es : List (Nat × Nat)) (row : List It) (pl : List Nat) (w w' : World) (e : Ending) : Prop :=
  ∃ yb ra' rc' pa' pc', e = .returned (.pointer (some ⟨yb, 0, none⟩)) ∧ w.heap.size ≤ yb ∧ Rb w' yb V a cap es ra' rc' row pa' pc' pl ∧ Below w.heap.size w w'
theorem copy_fin {w w1 : World} {rb V : Nat} {a : Option Addr} {cap : Nat} {es : List (Nat × Nat)} {ra : Option Addr} {rc : Nat} {row : List It} {pa : Option Addr} {pc : Nat} {pl : List Nat} (h : Rb w rb V a cap es ra rc row pa pc pl) (hb : Below w.heap.size w w1) {v9 v15 : Value} {n p : Nat} (hn : row.length = n) (hp : pl.length = p) (h1 : n ≤ 1000) (h2 : p ≤ 1000)
    (ho9 : w1.ownsRow w.heap.size 72 3 v9 n (icells row)) (ho15 : w1.ownsRow w.heap.size 3 1 v15 p (zcells (toIs pl))) : CpTold V a cap es row pl w (w1.alloc (.cells #[.int .i64 (V : Nat), .slice a es.length cap, v9, v15] 36)) (.returned (.pointer (some ⟨w1.heap.size, 0, none⟩))) := by
  subst hn
  subst hp
  obtain ⟨xa, xc, hx1, hx2, hx3, hx4, hx5⟩ := cr_of_owns ho9 (by omega)
  obtain ⟨ya, yc, hy1, hy2, hy3, _, hy5⟩ := cr_of_owns ho15 (by omega)
  obtain ⟨za, zc, hz1, _, hz4⟩ := ns_of_owns ho15 (by omega)
  have hxl : ∀ g off, xa = some ⟨g, off, none⟩ → g < w1.heap.size := fun g off he => by
    subst hx1; subst he
    exact (ho9.lt g (by have := (hx5 g off rfl).2; subst this; rfl)).2
  have hyl : ∀ g off, ya = some ⟨g, off, none⟩ → g < w1.heap.size := fun g off he => by
    subst hy1; subst he
    exact (ho15.lt g (by have := (hy5 g off rfl).2; subst this; rfl)).2
  subst hx1
  subst hy1
  cases hz1
  have hb2 := b_al (w := w1) (.cells #[.int .i64 (V : Nat), .slice a es.length cap, .slice xa row.length xc, .slice ya pl.length yc] 36)
  have hbb : Below w.heap.size w (w1.alloc (.cells #[.int .i64 (V : Nat), .slice a es.length cap, .slice xa row.length xc, .slice ya pl.length yc] 36)) := hb.trans (hb2.mono hb.size)
  refine ⟨w1.heap.size, xa, xc, ya, yc, rfl, hb.size, ⟨(MapKept.heap_alloc w1 _).1, h.edges.below hbb, Is.below hx4 hb2, hz4.below hb2, hx3, hy3, hx2, fun h0 g off he => ?_, fun g off he => by have := hxl g off he; omega, fun g off he => by have := hyl g off he; omega⟩, hbb⟩
  obtain ⟨g', off', he', _, hg', _⟩ := h.edges.2.2 0 (by rw [← toI_length]; have := h.edges.1; omega)
  rw [he] at he'
  cases he'
  have := hb.size
  omega

/-- both appends, one behind the other -/
theorem two_apps {u z : World} {base : Nat} (hb : Below base u z) (hbu : base ≤ u.heap.size) {v4 v10 : Value} (h4 : z.ownsRow base 72 3 v4 0 []) (h10 : z.ownsRow base 3 1 v10 0 []) (hne : ∀ g, v4.ownBlock = some g → v10.ownBlock ≠ some g)
    {ra : Option Addr} {n rc : Nat} {row : List It} (hn : row.length = n) (hrn : ra = none → n = 0 ∧ rc = 0) (hr : ∀ t : World, Below base u t → Is t ra row) {pa : Option Addr} {p pc : Nat} {pl : List Nat} (hp : pl.length = p) (hpn : pa = none → p = 0 ∧ pc = 0) (hpl : ∀ t : World, Below base u t → Ns t pa p (toIs pl)) (h1 : n ≤ 1000) (h2 : p ≤ 1000) :
    ∃ v9 z9 v15 z15, Sem.run Try.prog (Builtin.append_ #[33, 33] 33 #[v4, .slice ra n rc]) z = .ok v9 z9 ∧ Sem.run Try.prog (Builtin.append_ #[34, 34] 34 #[v10, .slice pa p pc]) z9 = .ok v15 z15 ∧ Below base u z9 ∧ Below base u z15 ∧ z15.ownsRow base 72 3 v9 n (icells row) ∧ z15.ownsRow base 3 1 v15 p (zcells (toIs pl)) := by
  obtain ⟨v9, z9, r9, o9, g9, t9⟩ := run_app_itsO (w := z) base v4 0 [] h4 ra n rc row hn hrn (hr z hb) (by omega) (Nat.le_trans hbu hb.size)
  have hb9 : Below base u z9 := hb.grown g9 (Nat.le_trans hbu hb.size) (fun b h => (h4.lt b h).1)
  have h10' : z9.ownsRow base 3 1 v10 0 (zcells []) := owns_keep h10 (fun g hg => g9.block g (h10.lt g hg).2 (fun e => hne g e.symm hg))
  obtain ⟨v15, z15, r15, o15, g15, t15⟩ := run_app_intsO (w := z9) base v10 0 [] h10' pa p pc (toIs pl) hpn (hpl z9 hb9) (by omega) (Nat.le_trans hbu hb9.size)
  have hb15 : Below base u z15 := hb9.grown g15 (Nat.le_trans hbu hb9.size) (fun b h => (h10'.lt b h).1)
  rw [Nat.zero_add, List.nil_append] at o9 o15
  refine ⟨v9, z9, v15, z15, r9, r15, hb9, hb15, owns_keep o9 (fun g hg => g15.block g (o9.lt g hg).2 (fun e => ?_)), o15⟩
  rcases t9 with h | h
  · exact hne g (by rw [← h]; exact hg) e.symm
  · rw [h] at hg
    cases hg
    have := (h10.lt _ e.symm).2
    omega

set_option maxHeartbeats 8000000 in
theorem refCopy_any (w : World) (rb V : Nat) (a : Option Addr) (cap : Nat) (es : List (Nat × Nat)) (ra : Option Addr) (rc : Nat) (row : List It) (pa : Option Addr) (pc : Nat) (pl : List Nat) (hR : Rb w rb V a cap es ra rc row pa pc pl) (h1 : row.length ≤ 1000) (h2 : pl.length ≤ 1000) :
    Calls Try.prog 25 #[.pointer (some ⟨rb, 0, none⟩)] w fun e w' => CpTold V a cap es row pl w w' e := by
  obtain ⟨c0, c1, c2, c3, hrb⟩ := hR.cells
  obtain ⟨m, hm⟩ : ∃ m, es.length = m := ⟨_, rfl⟩
  obtain ⟨n, hn⟩ : ∃ n, row.length = n := ⟨_, rfl⟩
  obtain ⟨p, hp⟩ : ∃ p, pl.length = p := ⟨_, rfl⟩
  rw [hm] at c1
  rw [hn] at c2
  rw [hp] at c3
  have HFIN := hide (fun (w1 : World) (hb : Below w.heap.size w w1) (v9 v15 : Value) ho9 ho15 => (show CpTold V a cap es row pl w (w1.alloc (.cells #[.int .i64 (V : Nat), .slice a m cap, v9, v15] 36)) _ from hm ▸ copy_fin hR hb (v9 := v9) (v15 := v15) hn hp (by omega) (by omega) ho9 ho15))
  have HIR := hide (fun (t : World) (hb : Below w.heap.size w t) => hR.items.below hb)
  have HIP := hide (fun (t : World) (hb : Below w.heap.size w t) => (show Ns t pa p (toIs pl) from hp ▸ hR.pls.below hb))
  have HRN := hide (show ra = none → n = 0 ∧ rc = 0 from hn ▸ hR.rno)
  have HPN := hide (show pa = none → p = 0 ∧ pc = 0 from hp ▸ hR.pno)
  have HSM := hide (show n ≤ 1000 ∧ p ≤ 1000 from ⟨by omega, by omega⟩)
  have HN := hide hn
  have HP := hide hp
  clear hR hm hn hp h1 h2
  go_enter Try.func25, Try.ntmps25
  go_wp2_with fail
  refine wp_region_held_drew (S := fun u => u.cell? ⟨rb, 0, none⟩ = some (.int .i64 (V : Nat)) ∧ u.cell? ⟨rb, 1, none⟩ = some (.slice a m cap) ∧ u.cell? ⟨rb, 2, none⟩ = some (.slice ra n rc) ∧ u.cell? ⟨rb, 3, none⟩ = some (.slice pa p pc)) (by kernel_rfl) ⟨c0, c1, c2, c3⟩ (fun hS0 => ?_)
  obtain ⟨u, hu⟩ : ∃ u, w.drew = u := ⟨_, rfl⟩
  have hbu : Below w.heap.size w u := by rw [← hu]; exact b_dr
  have hus : u.heap.size = w.heap.size := by rw [← hu]; rfl
  rw [hu] at hS0 ⊢
  have hq : ∀ t : World, Below w.heap.size w t → t.cell? ⟨rb, 0, none⟩ = some (.int .i64 (V : Nat)) ∧ t.cell? ⟨rb, 1, none⟩ = some (.slice a m cap) ∧ t.cell? ⟨rb, 2, none⟩ = some (.slice ra n rc) ∧ t.cell? ⟨rb, 3, none⟩ = some (.slice pa p pc) := fun t ht => ⟨by rw [ht.cell (p := ⟨rb, 0, none⟩) hrb]; exact c0, by rw [ht.cell (p := ⟨rb, 1, none⟩) hrb]; exact c1, by rw [ht.cell (p := ⟨rb, 2, none⟩) hrb]; exact c2, by rw [ht.cell (p := ⟨rb, 3, none⟩) hrb]; exact c3⟩
  have hq0 := hq
  have HQ := hide hq
  clear hq hq0 hu c0 c1 c2 c3
  -- 4 first
  have hA1 : Below w.heap.size w (u.alloc (.cells #[] 72)) := hbu.alloc (by omega) _
  have hC1 : Below w.heap.size w (u.alloc (.cells #[] 3)) := hbu.alloc (by omega) _
  have hB2 : Below w.heap.size w ((u.alloc (.cells #[] 72)).alloc (.cells #[] 3)) := hA1.alloc hA1.size _
  have hC2 : Below w.heap.size w ((u.alloc (.cells #[] 3)).alloc (.cells #[] 72)) := hC1.alloc hC1.size _
  obtain ⟨vB9, wB9, vB15, wB15, rB9, rB15, hbB9, hbB15, oB9, oB15⟩ := two_apps (u := w) (base := w.heap.size) hB2 (Nat.le_refl _) (v4 := .slice (some ⟨w.heap.size, 0, none⟩) 0 0) (v10 := .slice (some ⟨w.heap.size + 1, 0, none⟩) 0 0)
    (by have := owns_below' (owns_lit_empty u 72 3 w.heap.size (by omega)) (b_al (w := u.alloc (.cells #[] 72)) (.cells #[] 3)); rw [hus] at this; exact this)
    (by have := owns_lit_empty (u.alloc (.cells #[] 72)) 3 1 w.heap.size hA1.size; simp only [World.size_alloc] at this; rw [hus] at this; exact this)
    (fun g hg e => by simp [Value.ownBlock] at hg e; omega) (unhide HN) (unhide HRN) (unhide HIR) (unhide HP) (unhide HPN) (unhide HIP) (unhide HSM).1 (unhide HSM).2
  obtain ⟨vC9, wC9, vC15, wC15, rC9, rC15, hbC9, hbC15, oC9, oC15⟩ := two_apps (u := w) (base := w.heap.size) hC2 (Nat.le_refl _) (v4 := .slice (some ⟨w.heap.size + 1, 0, none⟩) 0 0) (v10 := .slice (some ⟨w.heap.size, 0, none⟩) 0 0)
    (by have := owns_lit_empty (u.alloc (.cells #[] 3)) 72 3 w.heap.size hC1.size; simp only [World.size_alloc] at this; rw [hus] at this; exact this)
    (by have := owns_below' (owns_lit_empty u 3 1 w.heap.size (by omega)) (b_al (w := u.alloc (.cells #[] 3)) (.cells #[] 72)); rw [hus] at this; exact this)
    (fun g hg e => by simp [Value.ownBlock] at hg e; omega) (unhide HN) (unhide HRN) (unhide HIR) (unhide HP) (unhide HPN) (unhide HIP) (unhide HSM).1 (unhide HSM).2
  have hoA := owns_lit_empty u 72 3 w.heap.size (by omega)
  rw [hus] at hoA
  obtain ⟨vA9, wA9, rA9, oA9, gA9, _⟩ := run_app_itsO (w := u.alloc (.cells #[] 72)) w.heap.size _ 0 [] hoA ra n rc row (unhide HN) (unhide HRN) (unhide HIR _ hA1) (by have := unhide HSM; omega) hA1.size
  have hbA9 : Below w.heap.size w wA9 := hA1.grown gA9 hA1.size (fun b h => (hoA.lt b h).1)
  have hbA10 : Below w.heap.size w (wA9.alloc (.cells #[] 3)) := hbA9.alloc hbA9.size _
  obtain ⟨vA15, wA15, rA15, oA15, gA15, _⟩ := run_app_intsO (w := wA9.alloc (.cells #[] 3)) wA9.heap.size _ 0 [] (owns_lit_empty wA9 3 1 wA9.heap.size (Nat.le_refl _)) pa p pc (toIs pl) (unhide HPN) (unhide HIP _ hbA10) (by have := unhide HSM; omega) (by simp)
  have hbA915 : Below wA9.heap.size wA9 wA15 := (b_al _).grown gA15 (by simp) (fun b h => ((owns_lit_empty wA9 3 1 wA9.heap.size (Nat.le_refl _)).lt b h).1)
  have hbA15 : Below w.heap.size w wA15 := hbA9.trans (hbA915.mono hbA9.size)
  rw [Nat.zero_add, List.nil_append] at oA9 oA15
  obtain ⟨a1, a2, rfl⟩ := own_shape oA9
  obtain ⟨a3, a4, rfl⟩ := own_shape oA15
  obtain ⟨b1, b2, rfl⟩ := own_shape oB9
  obtain ⟨b3, b4, rfl⟩ := own_shape oB15
  obtain ⟨c1, c2, rfl⟩ := own_shape oC9
  obtain ⟨c3, c4, rfl⟩ := own_shape oC15
  have FA := hide (unhide HFIN wA15 hbA15 _ _ (owns_below' oA9 hbA915) (owns_mono oA15 hbA9.size))
  have FB := hide (unhide HFIN wB15 hbB15 _ _ oB9 oB15)
  have FC := hide (unhide HFIN wC15 hbC15 _ _ oC9 oC15)
  have qA1 := unhide HQ _ hA1
  have qC1 := unhide HQ _ hC1
  have qB2 := unhide HQ _ hB2
  have qC2 := unhide HQ _ hC2
  have qA9 := unhide HQ _ hbA9
  have qA10 := unhide HQ _ hbA10
  have qA15 := unhide HQ _ hbA15
  have qB9 := unhide HQ _ hbB9
  have qB15 := unhide HQ _ hbB15
  have qC9 := unhide HQ _ hbC9
  have qC15 := unhide HQ _ hbC15
  have qA16 := unhide HQ (wA15.alloc (.cells #[.int .i64 (V : Nat), .slice a m cap, .slice a1 n a2, .slice a3 p a4] 36)) (hbA15.alloc hbA15.size _)
  have qB16 := unhide HQ (wB15.alloc (.cells #[.int .i64 (V : Nat), .slice a m cap, .slice b1 n b2, .slice b3 p b4] 36)) (hbB15.alloc hbB15.size _)
  have qC16 := unhide HQ (wC15.alloc (.cells #[.int .i64 (V : Nat), .slice a m cap, .slice c1 n c2, .slice c3 p c4] 36)) (hbC15.alloc hbC15.size _)
  rw [← hus] at rA9 rB9 rB15 rC9 rC15
  clear hus
  clear hoA oA9 gA9 oA15 gA15 hbA915 oB9 oB15 oC9 oC15 hA1 hC1 hB2 hC2 hbA9 hbA10 hbA15 hbB9 hbB15 hbC9 hbC15 hbu
  refine wpAnyH_take (i := 0) (v := ?_) rfl (by kernel_rfl) (by kernel_rfl) (by kernel_rfl) (fun _ _ _ h => h) (Or.inl ⟨by rfl, ?_⟩) hS0 ?_
  rotate_left
  · intro u hu; (try dsimp only at hu); go_simp; try with_reducible rfl
  simp only [Act.put, List.getElem_toArray, List.getElem_cons_zero, List.setIfInBounds_toArray, List.set_cons_zero, List.set_cons_succ]
  refine wpAnyH_take (i := 1) (v := ?_) rfl (by kernel_rfl) (by kernel_rfl) (by kernel_rfl) (fun _ _ _ h => h) (Or.inl ⟨by rfl, ?_⟩) hS0 ?_
  rotate_left
  · intro u hu; (try dsimp only at hu); go_simp; try with_reducible rfl
  simp only [Act.put, List.getElem_toArray, List.getElem_cons_zero, List.getElem_cons_succ, List.setIfInBounds_toArray, List.set_cons_zero, List.set_cons_succ]
  refine wpAnyH_take (i := 2) (v := ?_) rfl (by kernel_rfl) (by kernel_rfl) (by kernel_rfl) (fun _ _ _ h => h) (Or.inl ⟨by rfl, ?_⟩) hS0 ?_
  rotate_left
  · intro u hu; (try dsimp only at hu); go_simp; try with_reducible rfl
  simp only [Act.put, List.getElem_toArray, List.getElem_cons_zero, List.getElem_cons_succ, List.setIfInBounds_toArray, List.set_cons_zero, List.set_cons_succ]
  refine wpAnyH_take (i := 3) (v := ?_) rfl (by kernel_rfl) (by kernel_rfl) (by kernel_rfl) (fun _ _ _ h => h) (Or.inl ⟨by rfl, ?_⟩) hS0 ?_
  rotate_left
  · intro u hu; (try dsimp only at hu); go_simp; try with_reducible rfl
  simp only [Act.put, List.getElem_toArray, List.getElem_cons_zero, List.getElem_cons_succ, List.setIfInBounds_toArray, List.set_cons_zero, List.set_cons_succ]
  refine wpAnyH_take (i := 5) (v := ?_) rfl (by kernel_rfl) (by kernel_rfl) (by kernel_rfl) (fun _ _ _ h => h) (Or.inl ⟨by rfl, ?_⟩) hS0 ?_
  rotate_left
  · intro u hu; (try dsimp only at hu); go_simp; try with_reducible rfl
  simp only [Act.put, List.getElem_toArray, List.getElem_cons_zero, List.getElem_cons_succ, List.setIfInBounds_toArray, List.set_cons_zero, List.set_cons_succ]
  refine wpAnyH_take (i := 6) (v := ?_) rfl (by kernel_rfl) (by kernel_rfl) (by kernel_rfl) (fun _ _ _ h => h) (Or.inl ⟨by rfl, ?_⟩) hS0 ?_
  rotate_left
  · intro u hu; (try dsimp only at hu); go_simp; try with_reducible rfl
  simp only [Act.put, List.getElem_toArray, List.getElem_cons_zero, List.getElem_cons_succ, List.setIfInBounds_toArray, List.set_cons_zero, List.set_cons_succ]
  refine wpAnyH_take (i := 7) (v := ?_) rfl (by kernel_rfl) (by kernel_rfl) (by kernel_rfl) (fun _ _ _ h => h) (Or.inl ⟨by rfl, ?_⟩) hS0 ?_
  rotate_left
  · intro u hu; (try dsimp only at hu); go_simp; try with_reducible rfl
  simp only [Act.put, List.getElem_toArray, List.getElem_cons_zero, List.getElem_cons_succ, List.setIfInBounds_toArray, List.set_cons_zero, List.set_cons_succ]
  refine wpAnyH_take (i := 8) (v := ?_) rfl (by kernel_rfl) (by kernel_rfl) (by kernel_rfl) (fun _ _ _ h => h) (Or.inl ⟨by rfl, ?_⟩) hS0 ?_
  rotate_left
  · intro u hu; (try dsimp only at hu); go_simp; try with_reducible rfl
  simp only [Act.put, List.getElem_toArray, List.getElem_cons_zero, List.getElem_cons_succ, List.setIfInBounds_toArray, List.set_cons_zero, List.set_cons_succ]
  refine wpAnyH_take (i := 11) (v := ?_) rfl (by kernel_rfl) (by kernel_rfl) (by kernel_rfl) (fun _ _ _ h => h) (Or.inl ⟨by rfl, ?_⟩) hS0 ?_
  rotate_left
  · intro u hu; (try dsimp only at hu); go_simp; try with_reducible rfl
  simp only [Act.put, List.getElem_toArray, List.getElem_cons_zero, List.getElem_cons_succ, List.setIfInBounds_toArray, List.set_cons_zero, List.set_cons_succ]
  refine wpAnyH_take (i := 12) (v := ?_) rfl (by kernel_rfl) (by kernel_rfl) (by kernel_rfl) (fun _ _ _ h => h) (Or.inl ⟨by rfl, ?_⟩) hS0 ?_
  rotate_left
  · intro u hu; (try dsimp only at hu); go_simp; try with_reducible rfl
  simp only [Act.put, List.getElem_toArray, List.getElem_cons_zero, List.getElem_cons_succ, List.setIfInBounds_toArray, List.set_cons_zero, List.set_cons_succ]
  refine wpAnyH_take (i := 13) (v := ?_) rfl (by kernel_rfl) (by kernel_rfl) (by kernel_rfl) (fun _ _ _ h => h) (Or.inl ⟨by rfl, ?_⟩) hS0 ?_
  rotate_left
  · intro u hu; (try dsimp only at hu); go_simp; try with_reducible rfl
  simp only [Act.put, List.getElem_toArray, List.getElem_cons_zero, List.getElem_cons_succ, List.setIfInBounds_toArray, List.set_cons_zero, List.set_cons_succ]
  refine wpAnyH_take (i := 14) (v := ?_) rfl (by kernel_rfl) (by kernel_rfl) (by kernel_rfl) (fun _ _ _ h => h) (Or.inl ⟨by rfl, ?_⟩) hS0 ?_
  rotate_left
  · intro u hu; (try dsimp only at hu); go_simp; try with_reducible rfl
  simp only [Act.put, List.getElem_toArray, List.getElem_cons_zero, List.getElem_cons_succ, List.setIfInBounds_toArray, List.set_cons_zero, List.set_cons_succ]
  refine wpAnyH_ready (rs := [4, 10]) (by kernel_rfl) (by simp) ?_
  refine AllReadyH.cons rfl (fun K hK => ?_) (AllReadyH.cons rfl (fun K hK => ?_) AllReadyH.nil)
  · go_simp
    refine hK.out _ _ qA1 (fun hU1 => ?_)
    clear hK K
    refine wpAnyH_ready (rs := [9, 10]) (by kernel_rfl) (by simp) ?_
    refine AllReadyH.cons rfl (fun K hK => ?_) (AllReadyH.cons rfl (fun K hK => ?_) AllReadyH.nil)
    · refine Eq.mpr (if_pos rfl) ?_
      change Oper.wp Try.prog { dst := some 12, op := Op.call { callee := .builtin .append, args := #[.tmp 7, .tmp 11], argTypes := #[33, 33] }, type := 33, pos := _, after := _, guard := _ } _ _ _ _
      unfold Oper.wp execOp
      simp only [resolve, invoke, builtin, Sem.run_bind, Sem.run_pure, Result.andThen_ok, List.map_toArray, List.map_cons, List.map_nil]
      change Oper.upon _ _ _ _ _ ((Sem.run Try.prog (Builtin.append_ #[33, 33] 33 #[.slice (some ⟨u.heap.size, 0, none⟩) 0 0, .slice ra n rc]) _).andThen _)
      rw [rA9]
      simp only [Result.andThen_ok, Oper.upon]
      refine hK.out _ _ qA9 (fun hU2 => ?_)
      clear hK K
      refine wpAnyH_ready (rs := [10]) (by kernel_rfl) (by simp) ?_
      refine AllReadyH.cons rfl (fun K hK => ?_) AllReadyH.nil
      go_simp
      refine hK.out _ _ qA10 (fun hU3 => ?_)
      clear hK K
      refine wpAnyH_ready (rs := [15]) (by kernel_rfl) (by simp) ?_
      refine AllReadyH.cons rfl (fun K hK => ?_) AllReadyH.nil
      refine Eq.mpr (if_pos rfl) ?_
      change Oper.wp Try.prog { dst := some 18, op := Op.call { callee := .builtin .append, args := #[.tmp 13, .tmp 17], argTypes := #[34, 34] }, type := 34, pos := _, after := _, guard := _ } _ _ _ _
      unfold Oper.wp execOp
      simp only [resolve, invoke, builtin, Sem.run_bind, Sem.run_pure, Result.andThen_ok, List.map_toArray, List.map_cons, List.map_nil]
      change Oper.upon _ _ _ _ _ ((Sem.run Try.prog (Builtin.append_ #[34, 34] 34 #[.slice (some ⟨wA9.heap.size, 0, none⟩) 0 0, .slice pa p pc]) _).andThen _)
      rw [rA15]
      simp only [Result.andThen_ok, Oper.upon]
      refine hK.out _ _ qA15 (fun hU4 => ?_)
      clear hK K
      refine wpAnyH_take (i := 16) (v := ?_) rfl (by kernel_rfl) (by kernel_rfl) (by kernel_rfl) (fun _ _ _ h => h) (Or.inl ⟨by rfl, ?_⟩) hU4 ?_
      rotate_left
      · intro u hu; (try dsimp only at hu); go_simp; try with_reducible rfl
      simp only [Act.put, List.getElem_toArray, List.getElem_cons_zero, List.getElem_cons_succ, List.setIfInBounds_toArray, List.set_cons_zero, List.set_cons_succ]
      refine wpAnyH_ready (rs := [17]) (by kernel_rfl) (by simp) ?_
      refine AllReadyH.cons rfl (fun K hK => ?_) AllReadyH.nil
      go_simp
      refine hK.out _ _ qA16 (fun hU8 => ?_)
      clear hK K
      refine wpAnyH_take (i := 18) (v := ?_) rfl (by kernel_rfl) (by kernel_rfl) (by kernel_rfl) (fun _ _ _ h => h) (Or.inl ⟨by rfl, ?_⟩) hU8 ?_
      rotate_left
      · intro u hu; (try dsimp only at hu); go_simp; try with_reducible rfl
      simp only [Act.put, List.getElem_toArray, List.getElem_cons_zero, List.getElem_cons_succ, List.setIfInBounds_toArray, List.set_cons_zero, List.set_cons_succ]
      refine wpAnyH_done (by kernel_rfl) ?_ _
      go_wp2_with fail
      go_ret
      exact unhide FA
    · go_simp
      refine hK.out _ _ qB2 (fun hU2 => ?_)
      clear hK K
      refine wpAnyH_ready (rs := [9]) (by kernel_rfl) (by simp) ?_
      refine AllReadyH.cons rfl (fun K hK => ?_) AllReadyH.nil
      refine Eq.mpr (if_pos rfl) ?_
      change Oper.wp Try.prog { dst := some 12, op := Op.call { callee := .builtin .append, args := #[.tmp 7, .tmp 11], argTypes := #[33, 33] }, type := 33, pos := _, after := _, guard := _ } _ _ _ _
      unfold Oper.wp execOp
      simp only [resolve, invoke, builtin, Sem.run_bind, Sem.run_pure, Result.andThen_ok, List.map_toArray, List.map_cons, List.map_nil]
      change Oper.upon _ _ _ _ _ ((Sem.run Try.prog (Builtin.append_ #[33, 33] 33 #[.slice (some ⟨u.heap.size, 0, none⟩) 0 0, .slice ra n rc]) _).andThen _)
      rw [rB9]
      simp only [Result.andThen_ok, Oper.upon]
      refine hK.out _ _ qB9 (fun hU3 => ?_)
      clear hK K
      refine wpAnyH_ready (rs := [15]) (by kernel_rfl) (by simp) ?_
      refine AllReadyH.cons rfl (fun K hK => ?_) AllReadyH.nil
      refine Eq.mpr (if_pos rfl) ?_
      change Oper.wp Try.prog { dst := some 18, op := Op.call { callee := .builtin .append, args := #[.tmp 13, .tmp 17], argTypes := #[34, 34] }, type := 34, pos := _, after := _, guard := _ } _ _ _ _
      unfold Oper.wp execOp
      simp only [resolve, invoke, builtin, Sem.run_bind, Sem.run_pure, Result.andThen_ok, List.map_toArray, List.map_cons, List.map_nil]
      change Oper.upon _ _ _ _ _ ((Sem.run Try.prog (Builtin.append_ #[34, 34] 34 #[.slice (some ⟨u.heap.size + 1, 0, none⟩) 0 0, .slice pa p pc]) _).andThen _)
      rw [rB15]
      simp only [Result.andThen_ok, Oper.upon]
      refine hK.out _ _ qB15 (fun hU4 => ?_)
      clear hK K
      refine wpAnyH_take (i := 16) (v := ?_) rfl (by kernel_rfl) (by kernel_rfl) (by kernel_rfl) (fun _ _ _ h => h) (Or.inl ⟨by rfl, ?_⟩) hU4 ?_
      rotate_left
      · intro u hu; (try dsimp only at hu); go_simp; try with_reducible rfl
      simp only [Act.put, List.getElem_toArray, List.getElem_cons_zero, List.getElem_cons_succ, List.setIfInBounds_toArray, List.set_cons_zero, List.set_cons_succ]
      refine wpAnyH_ready (rs := [17]) (by kernel_rfl) (by simp) ?_
      refine AllReadyH.cons rfl (fun K hK => ?_) AllReadyH.nil
      go_simp
      refine hK.out _ _ qB16 (fun hU8 => ?_)
      clear hK K
      refine wpAnyH_take (i := 18) (v := ?_) rfl (by kernel_rfl) (by kernel_rfl) (by kernel_rfl) (fun _ _ _ h => h) (Or.inl ⟨by rfl, ?_⟩) hU8 ?_
      rotate_left
      · intro u hu; (try dsimp only at hu); go_simp; try with_reducible rfl
      simp only [Act.put, List.getElem_toArray, List.getElem_cons_zero, List.getElem_cons_succ, List.setIfInBounds_toArray, List.set_cons_zero, List.set_cons_succ]
      refine wpAnyH_done (by kernel_rfl) ?_ _
      go_wp2_with fail
      go_ret
      exact unhide FB
  · go_simp
    refine hK.out _ _ qC1 (fun hU1 => ?_)
    clear hK K
    refine wpAnyH_ready (rs := [4]) (by kernel_rfl) (by simp) ?_
    refine AllReadyH.cons rfl (fun K hK => ?_) AllReadyH.nil
    go_simp
    refine hK.out _ _ qC2 (fun hU2 => ?_)
    clear hK K
    refine wpAnyH_ready (rs := [9]) (by kernel_rfl) (by simp) ?_
    refine AllReadyH.cons rfl (fun K hK => ?_) AllReadyH.nil
    refine Eq.mpr (if_pos rfl) ?_
    change Oper.wp Try.prog { dst := some 12, op := Op.call { callee := .builtin .append, args := #[.tmp 7, .tmp 11], argTypes := #[33, 33] }, type := 33, pos := _, after := _, guard := _ } _ _ _ _
    unfold Oper.wp execOp
    simp only [resolve, invoke, builtin, Sem.run_bind, Sem.run_pure, Result.andThen_ok, List.map_toArray, List.map_cons, List.map_nil]
    change Oper.upon _ _ _ _ _ ((Sem.run Try.prog (Builtin.append_ #[33, 33] 33 #[.slice (some ⟨u.heap.size + 1, 0, none⟩) 0 0, .slice ra n rc]) _).andThen _)
    rw [rC9]
    simp only [Result.andThen_ok, Oper.upon]
    refine hK.out _ _ qC9 (fun hU3 => ?_)
    clear hK K
    refine wpAnyH_ready (rs := [15]) (by kernel_rfl) (by simp) ?_
    refine AllReadyH.cons rfl (fun K hK => ?_) AllReadyH.nil
    refine Eq.mpr (if_pos rfl) ?_
    change Oper.wp Try.prog { dst := some 18, op := Op.call { callee := .builtin .append, args := #[.tmp 13, .tmp 17], argTypes := #[34, 34] }, type := 34, pos := _, after := _, guard := _ } _ _ _ _
    unfold Oper.wp execOp
    simp only [resolve, invoke, builtin, Sem.run_bind, Sem.run_pure, Result.andThen_ok, List.map_toArray, List.map_cons, List.map_nil]
    change Oper.upon _ _ _ _ _ ((Sem.run Try.prog (Builtin.append_ #[34, 34] 34 #[.slice (some ⟨u.heap.size, 0, none⟩) 0 0, .slice pa p pc]) _).andThen _)
    rw [rC15]
    simp only [Result.andThen_ok, Oper.upon]
    refine hK.out _ _ qC15 (fun hU4 => ?_)
    clear hK K
    refine wpAnyH_take (i := 16) (v := ?_) rfl (by kernel_rfl) (by kernel_rfl) (by kernel_rfl) (fun _ _ _ h => h) (Or.inl ⟨by rfl, ?_⟩) hU4 ?_
    rotate_left
    · intro u hu; (try dsimp only at hu); go_simp; try with_reducible rfl
    simp only [Act.put, List.getElem_toArray, List.getElem_cons_zero, List.getElem_cons_succ, List.setIfInBounds_toArray, List.set_cons_zero, List.set_cons_succ]
    refine wpAnyH_ready (rs := [17]) (by kernel_rfl) (by simp) ?_
    refine AllReadyH.cons rfl (fun K hK => ?_) AllReadyH.nil
    go_simp
    refine hK.out _ _ qC16 (fun hU8 => ?_)
    clear hK K
    refine wpAnyH_take (i := 18) (v := ?_) rfl (by kernel_rfl) (by kernel_rfl) (by kernel_rfl) (fun _ _ _ h => h) (Or.inl ⟨by rfl, ?_⟩) hU8 ?_
    rotate_left
    · intro u hu; (try dsimp only at hu); go_simp; try with_reducible rfl
    simp only [Act.put, List.getElem_toArray, List.getElem_cons_zero, List.getElem_cons_succ, List.setIfInBounds_toArray, List.set_cons_zero, List.set_cons_succ]
    refine wpAnyH_done (by kernel_rfl) ?_ _
    go_wp2_with fail
    go_ret
    exact unhide FC
end Go.Proofs.Ytdkchihomllokaa
/-
  Whether all vertices can be placed: what is placed first makes no difference; rows in which edges stand by turns. No conditions.
-/
namespace Go.Proofs.Ytdkchihomllokaa
open Go.RowKit
set_option linter.unusedVariables false
set_option maxRecDepth 20000

theorem Placed.at0 {V : Nat} {es : List (Nat × Nat)} {src : Nat} {row : List It} {pl : List Nat} {x : Int} {zs : List Int} {ends row2 : List It} {pl2 : List Nat} (h : Placed V es src row pl x zs 0 ends row2 pl2) :
    ∃ (y : Nat) (o : List Nat), x = (y : Int) ∧ y < V ∧ ReadyAt V es src row pl y ∧ zs = toIs o ∧ o.Perm (Pl.outs es y) ∧ pl2 = pl ++ [y] ∧ ((pl = [] ∧ y = src ∧ ends = [] ∧ row2 = aboveF es y o) ∨ (pl ≠ [] ∧ ∃ A C, Rdy V es row y A ends C ∧ row2 = A ++ (aboveF es y o ++ C))) := by
  rcases h with ⟨h, _⟩ | ⟨h, _⟩ | ⟨_, y, o, h1, h2, h3, h4, h5, h6⟩
  · cases h
  · cases h
  · refine ⟨y, o, h1, h2, ?_, h3, h4, h5, h6⟩
    rcases h6 with ⟨h7, h8, _⟩ | ⟨h7, A, C, h8, _⟩
    · exact .inl ⟨h7, h8⟩
    · exact .inr ⟨h7, A, ends, C, h8⟩
theorem Placed.det {V : Nat} {es : List (Nat × Nat)} {src : Nat} {row : List It} {pl : List Nat} {x : Int} {zs : List Int} {c c' : Int} {ends row2 ends' row2' : List It} {pl2 pl2' : List Nat} (h : Placed V es src row pl x zs c ends row2 pl2) (h' : Placed V es src row pl x zs c' ends' row2' pl2') : c = c' ∧ ends = ends' ∧ row2 = row2' ∧ pl2 = pl2' := by
  have z0 : ∀ {e r p}, Placed V es src row pl x zs 0 e r p → ∀ y : Nat, x = (y : Int) → ReadyAt V es src row pl y ∧ srtZ zs = toIs (Pl.outs es y) := by
    intro e r p h y hy
    obtain ⟨y', o, h1, _, h3, h4, h5, _⟩ := h.at0
    obtain rfl : y' = y := by omega
    exact ⟨h3, srt_of_perm (by rw [h4]; exact h5.map _)⟩
  rcases h with ⟨rfl, rfl, rfl, rfl, h⟩ | ⟨rfl, rfl, rfl, rfl, y, hy, _, hr, hs⟩ | ⟨rfl, h⟩
  · rcases h' with ⟨rfl, rfl, rfl, rfl, _⟩ | ⟨rfl, rfl, rfl, rfl, y', hy', _, hr', _⟩ | ⟨rfl, h'⟩
    · exact ⟨rfl, rfl, rfl, rfl⟩
    · exact absurd hr' (h y' hy')
    · have h2 : Placed V es src row2 pl2 x zs 0 ends' row2' pl2' := .inr (.inr ⟨rfl, h'⟩)
      obtain ⟨y', _, hy', _, hr', _⟩ := h2.at0
      exact absurd hr' (h y' hy')
  · rcases h' with ⟨rfl, rfl, rfl, rfl, h'⟩ | ⟨rfl, rfl, rfl, rfl, _⟩ | ⟨rfl, h'⟩
    · exact absurd hr (h' y hy)
    · exact ⟨rfl, rfl, rfl, rfl⟩
    · exact absurd (z0 (.inr (.inr ⟨rfl, h'⟩)) y hy).2 hs
  · rcases h' with ⟨rfl, rfl, rfl, rfl, h'⟩ | ⟨rfl, rfl, rfl, rfl, y', hy', _, hr', hs'⟩ | ⟨rfl, h'⟩
    · have h2 : Placed V es src row2' pl2' x zs 0 ends row2 pl2 := .inr (.inr ⟨rfl, h⟩)
      obtain ⟨y', _, hy', _, hr', _⟩ := h2.at0
      exact absurd hr' (h' y' hy')
    · exact absurd (z0 (.inr (.inr ⟨rfl, h⟩)) y' hy').2 hs'
    · obtain ⟨y, o, rfl, _, rfl, _, rfl, h⟩ := h
      obtain ⟨y', o', he, _, ho, _, rfl, h'⟩ := h'
      obtain rfl : y' = y := by omega
      obtain rfl : o' = o := toIs_inj ho.symm
      rcases h with ⟨h1, _, rfl, rfl⟩ | ⟨h1, A, C, hr, rfl⟩
      · rcases h' with ⟨_, _, rfl, rfl⟩ | ⟨h2, _⟩
        · exact ⟨rfl, rfl, rfl, rfl⟩
        · exact absurd h1 h2
      · rcases h' with ⟨h2, _⟩ | ⟨_, A', C', hr', rfl⟩
        · exact absurd h2 h1
        · obtain ⟨rfl, rfl, rfl⟩ := hr.only hr'
          exact ⟨rfl, rfl, rfl, rfl⟩
/-- one that is ready, with all its edges, is placed -/
theorem Placed.ok {V : Nat} {es : List (Nat × Nat)} {src : Nat} {row : List It} {pl : List Nat} {y : Nat} {zs : List Int} {c : Int} {ends row2 : List It} {pl2 : List Nat} (h : Placed V es src row pl (y : Nat) zs c ends row2 pl2) (hr : ReadyAt V es src row pl y) (ho : zs.Perm (toIs (Pl.outs es y))) : c = 0 := by
  rcases h with ⟨_, _, _, _, h⟩ | ⟨_, _, _, _, y', hy, _, _, h⟩ | ⟨rfl, _⟩
  · exact absurd hr (h y rfl)
  · obtain rfl : y' = y := by omega
    exact absurd (srt_of_perm ho) h
  · rfl
theorem Placed.mk0 {V : Nat} {es : List (Nat × Nat)} {src : Nat} {row : List It} {pl : List Nat} {y : Nat} {o : List Nat} (hV : src < V) (hr : ReadyAt V es src row pl y) (ho : o.Perm (Pl.outs es y)) : ∃ ends row2, Placed V es src row pl (y : Nat) (toIs o) 0 ends row2 (pl ++ [y]) := by
  rcases hr with ⟨h1, h2⟩ | ⟨h1, A, Y, C, h2⟩
  · exact ⟨[], aboveF es y o, .inr (.inr ⟨rfl, y, o, rfl, by omega, rfl, ho, rfl, .inl ⟨h1, h2, rfl, rfl⟩⟩)⟩
  · exact ⟨Y, _, .inr (.inr ⟨rfl, y, o, rfl, h2.lt, rfl, ho, rfl, .inr ⟨h1, A, C, h2, rfl⟩⟩)⟩

/-- all vertices can be placed, n more at most -/
def CanR (V : Nat) (es : List (Nat × Nat)) (src : Nat) : Nat → List It → List Nat → Prop
  | 0, _, pl => pl.length = V
  | n + 1, row, pl => pl.length = V ∨ ∃ (y : Nat) (zs : List Int) (ends row2 : List It) (pl2 : List Nat), Placed V es src row pl (y : Nat) zs 0 ends row2 pl2 ∧ CanR V es src n row2 pl2
theorem CanR.same {V : Nat} {es : List (Nat × Nat)} {src : Nat} : ∀ (n : Nat) (row : List It) (pl pl' : List Nat), pl.length = pl'.length → CanR V es src n row pl → CanR V es src n row pl'
  | 0, row, pl, pl', he, h => by unfold CanR at *; omega
  | n + 1, row, pl, pl', he, h => by
    have h0 : pl = [] ↔ pl' = [] := by rw [← List.length_eq_zero_iff, ← List.length_eq_zero_iff, he]
    rcases h with h | ⟨y, zs, ends, row2, pl2, hP, hC⟩
    · exact .inl (by omega)
    · obtain ⟨y', o, e, hV, _, hz, ho, rfl, h⟩ := hP.at0
      obtain rfl : y' = y := by omega
      refine .inr ⟨y', zs, ends, row2, pl' ++ [y'], .inr (.inr ⟨rfl, y', o, rfl, hV, hz, ho, rfl, ?_⟩), CanR.same n row2 _ _ (by simp [he]) hC⟩
      rcases h with ⟨h1, h2⟩ | ⟨h1, h2⟩
      · exact .inl ⟨h0.1 h1, h2⟩
      · exact .inr ⟨fun e => h1 (h0.2 e), h2⟩
theorem ReadyAt.not {V : Nat} {es : List (Nat × Nat)} {src : Nat} {row : List It} {pl : List Nat} (hI : Inv V es src row pl) (hs : src < V) {x : Nat} (hx : ReadyAt V es src row pl x) : x < V ∧ x ∉ pl ∧ pl.length ≠ V := by
  have h1 : x < V ∧ x ∉ pl := by
    rcases hx with ⟨h1, h2⟩ | ⟨h1, A, Y, C, h2⟩
    · exact ⟨by omega, by rw [h1]; simp⟩
    · exact ⟨h2.lt, (hI.tails h2).2⟩
  refine ⟨h1.1, h1.2, fun e => h1.2 ?_⟩
  exact nodup_full hI.nd (m := List.range V) (fun z hz => List.mem_range.2 (hI.lt z hz)) (by simp [e]) x (List.mem_range.2 h1.1)
/-- whichever ready vertex is placed first -/
theorem can_any {V : Nat} {es : List (Nat × Nat)} {src : Nat} (hp : Plain V es) (hsrc : bare (Pl.ins es) V = [src]) : ∀ (n : Nat) (row : List It) (pl : List Nat), Inv V es src row pl → CanR V es src n row pl → ∀ x, ReadyAt V es src row pl x →
    ∃ m o ends row2 pl2, n = m + 1 ∧ o.Perm (Pl.outs es x) ∧ Placed V es src row pl (x : Nat) (toIs o) 0 ends row2 pl2 ∧ CanR V es src m row2 pl2
  | 0, row, pl, hI, hC, x, hx => absurd hC (hx.not hI (bare_src hsrc).1).2.2
  | n + 1, row, pl, hI, hC, x, hx => by
    rcases hC with h | ⟨y, zs, ends, row2, pl2, hP, hC⟩
    · exact absurd h (hx.not hI (bare_src hsrc).1).2.2
    obtain ⟨y', oy, e, hyV, hyR, hz, hoy, hpl2, hshape⟩ := hP.at0
    obtain rfl : y' = y := by omega
    by_cases hxy : x = y'
    · subst hxy
      subst hz
      exact ⟨n, oy, ends, row2, pl2, rfl, hoy, hP, hC⟩
    rcases hshape with ⟨h1, h2, _⟩ | ⟨h1, A, C, hr, rfl⟩
    · rcases hx with ⟨_, h4⟩ | ⟨h4, _⟩
      · exact absurd (h4.trans h2.symm) hxy
      · exact absurd h1 h4
    rcases hx with ⟨h4, _⟩ | ⟨_, A1, Y1, C1, hrx⟩
    · exact absurd h4 h1
    have hI2 := hP.inv hI hp hsrc
    obtain ⟨_, ⟨A2, C2, hr2, _⟩, _⟩ := swap_rows hI hr hrx (fun e => hxy e.symm) hoy (List.Perm.refl (Pl.outs es x))
    have hne2 : pl2 ≠ [] := by rw [hpl2]; simp
    obtain ⟨m, ox, ends', row3, pl3, rfl, hox, hP3, hC3⟩ := can_any hp hsrc n _ pl2 hI2 hC x (.inr ⟨hne2, _, _, _, hr2⟩)
    obtain ⟨row12, ⟨Ay, Cy, hry, e1⟩, ⟨Ax, Cx, hrx2, e2⟩⟩ := swap_rows hI hr hrx (fun e => hxy e.symm) hoy hox
    have h3 := hP3.ready hne2 hry (srt_of_perm (hox.map _))
    have hrow3 : row3 = row12 := by rw [h3.2.2.1, e1]
    refine ⟨m + 1, ox, Y1, A1 ++ (aboveF es x ox ++ C1), pl ++ [x], rfl, hox, .inr (.inr ⟨rfl, x, ox, rfl, hrx.lt, rfl, hox, rfl, .inr ⟨h1, A1, C1, hrx, rfl⟩⟩), .inr ⟨y', toIs oy, ends, row12, pl ++ [x] ++ [y'], .inr (.inr ⟨rfl, y', oy, rfl, hyV, rfl, hoy, rfl, .inr ⟨by simp, Ax, Cx, hrx2, e2⟩⟩), ?_⟩⟩
    rw [hrow3] at hC3
    refine CanR.same m row12 pl3 _ ?_ hC3
    rw [h3.2.2.2, hpl2]
    simp
end Go.Proofs.Ytdkchihomllokaa
/-
  The contract of the document's Can. Conditions: the document's front lies in memory, and stands, as told; ten edges at most.
-/
namespace Go.Proofs.Ytdkchihomllokaa
open Go.RowKit
set_option linter.unusedVariables false
set_option maxRecDepth 20000

set_option maxHeartbeats 8000000 in
theorem can_calls (V : Nat) (es : List (Nat × Nat)) (src : Nat) (a : Option Addr) (cap : Nat) (hp : Plain V es) (hsrc : bare (Pl.ins es) V = [src]) (h10 : es.length ≤ 10) : ∀ (n : Nat) (w : World) (rb : Nat) (ra : Option Addr) (rc : Nat) (row : List It) (pa : Option Addr) (pc : Nat) (pl : List Nat), Rb w rb V a cap es ra rc row pa pc pl → Inv V es src row pl → V - pl.length ≤ n →
    Calls Try.prog 22 #[.pointer (some ⟨rb, 0, none⟩)] w fun e w' => Told (CanR V es src n row pl) e ∧ Below w.heap.size w w' := by
  intro n
  induction n with
  | zero =>
    intro w rb ra rc row pa pc pl hR hI hn
    obtain ⟨c0, c1, c2, c3, hrb⟩ := hR.cells
    have hpl : pl.length = V := by have := hI.plen; omega
    rw [hpl] at c3
    have HPL := hide hpl
    clear hR hI hn hpl
    go_enter Try.func22, Try.ntmps22
    go_wp2_with fail
    refine wp_region_held_drew (S := fun u => u.cell? ⟨rb, 0, none⟩ = some (.int .i64 (V : Nat)) ∧ u.cell? ⟨rb, 3, none⟩ = some (.slice pa V pc)) (by kernel_rfl) ⟨c0, c3⟩ (fun hS0 => ?_)
    have hbu : Below w.heap.size w w.drew := b_dr
    generalize w.drew = u at hS0 hbu ⊢
    refine wpAnyH_take (i := 0) (v := ?_) rfl (by kernel_rfl) (by kernel_rfl) (by kernel_rfl) (fun _ _ _ h => h) (Or.inl ⟨by rfl, ?_⟩) hS0 ?_
    rotate_left
    · intro u hu; (try dsimp only at hu); go_simp; try with_reducible rfl
    simp only [Act.put, List.getElem_toArray, List.getElem_cons_zero, List.setIfInBounds_toArray, List.set_cons_zero, List.set_cons_succ]
    refine wpAnyH_take (i := 1) (v := ?_) rfl (by kernel_rfl) (by kernel_rfl) (by kernel_rfl) (fun _ _ _ h => h) (Or.inl ⟨by rfl, ?_⟩) hS0 ?_
    rotate_left
    · intro u hu; (try dsimp only at hu); go_simp; try with_reducible rfl
    simp only [Act.put, List.getElem_toArray, List.getElem_cons_zero, List.getElem_cons_succ, List.setIfInBounds_toArray, List.set_cons_zero, List.set_cons_succ]
    refine wpAnyH_take (i := 2) (v := ?_) rfl (by kernel_rfl) (by kernel_rfl) (by kernel_rfl) (fun _ _ _ h => h) (Or.inl ⟨by rfl, ?_⟩) hS0 ?_
    rotate_left
    · intro u hu; (try dsimp only at hu); go_simp; try with_reducible rfl
    simp only [Act.put, List.getElem_toArray, List.getElem_cons_zero, List.getElem_cons_succ, List.setIfInBounds_toArray, List.set_cons_zero, List.set_cons_succ]
    refine wpAnyH_take (i := 3) (v := ?_) rfl (by kernel_rfl) (by kernel_rfl) (by kernel_rfl) (fun _ _ _ h => h) (Or.inl ⟨by rfl, ?_⟩) hS0 ?_
    rotate_left
    · intro u hu; (try dsimp only at hu); go_simp; try with_reducible rfl
    simp only [Act.put, List.getElem_toArray, List.getElem_cons_zero, List.getElem_cons_succ, List.setIfInBounds_toArray, List.set_cons_zero, List.set_cons_succ]
    refine wpAnyH_take (i := 4) (v := ?_) rfl (by kernel_rfl) (by kernel_rfl) (by kernel_rfl) (fun _ _ _ h => h) (Or.inl ⟨by rfl, ?_⟩) hS0 ?_
    rotate_left
    · intro u hu; (try dsimp only at hu); go_simp; try with_reducible rfl
    simp only [Act.put, List.getElem_toArray, List.getElem_cons_zero, List.getElem_cons_succ, List.setIfInBounds_toArray, List.set_cons_zero, List.set_cons_succ]
    refine wpAnyH_take (i := 5) (v := ?_) rfl (by kernel_rfl) (by kernel_rfl) (by kernel_rfl) (fun _ _ _ h => h) (Or.inl ⟨by rfl, ?_⟩) hS0 ?_
    rotate_left
    · intro u hu; (try dsimp only at hu); go_simp; try with_reducible rfl
    simp only [Act.put, List.getElem_toArray, List.getElem_cons_zero, List.getElem_cons_succ, List.setIfInBounds_toArray, List.set_cons_zero, List.set_cons_succ]
    refine wpAnyH_take (i := 6) (v := ?_) rfl (by kernel_rfl) (by kernel_rfl) (by kernel_rfl) (fun _ _ _ h => h) (Or.inl ⟨by rfl, ?_⟩) hS0 ?_
    rotate_left
    · intro u hu; (try dsimp only at hu); go_simp; try with_reducible rfl
    simp only [Act.put, List.getElem_toArray, List.getElem_cons_zero, List.getElem_cons_succ, List.setIfInBounds_toArray, List.set_cons_zero, List.set_cons_succ]
    refine wpAnyH_take (i := 7) (v := ?_) rfl (by kernel_rfl) (by kernel_rfl) (by kernel_rfl) (fun _ _ _ h => h) (Or.inl ⟨by rfl, ?_⟩) hS0 ?_
    rotate_left
    · intro u hu; (try dsimp only at hu); go_simp; try with_reducible rfl
    simp only [Act.put, List.getElem_toArray, List.getElem_cons_zero, List.getElem_cons_succ, List.setIfInBounds_toArray, List.set_cons_zero, List.set_cons_succ]
    refine wpAnyH_take (i := 8) (v := ?_) rfl (by kernel_rfl) (by kernel_rfl) (by kernel_rfl) (fun _ _ _ h => h) (Or.inl ⟨by rfl, ?_⟩) hS0 ?_
    rotate_left
    · intro u hu; (try dsimp only at hu); go_simp; try with_reducible rfl
    simp only [Act.put, List.getElem_toArray, List.getElem_cons_zero, List.getElem_cons_succ, List.setIfInBounds_toArray, List.set_cons_zero, List.set_cons_succ]
    refine wpAnyH_take (i := 9) (v := ?_) rfl (by kernel_rfl) (by kernel_rfl) (by kernel_rfl) (fun _ _ _ h => h) (Or.inl ⟨by rfl, ?_⟩) hS0 ?_
    rotate_left
    · intro u hu; (try dsimp only at hu); go_simp; try with_reducible rfl
    simp only [Act.put, List.getElem_toArray, List.getElem_cons_zero, List.getElem_cons_succ, List.setIfInBounds_toArray, List.set_cons_zero, List.set_cons_succ]
    refine wpAnyH_take (i := 10) (v := ?_) rfl (by kernel_rfl) (by kernel_rfl) (by kernel_rfl) (fun _ _ _ h => h) (Or.inl ⟨by rfl, ?_⟩) hS0 ?_
    rotate_left
    · intro u hu; (try dsimp only at hu); go_simp; try with_reducible rfl
    simp only [Act.put, List.getElem_toArray, List.getElem_cons_zero, List.getElem_cons_succ, List.setIfInBounds_toArray, List.set_cons_zero, List.set_cons_succ]
    refine wpAnyH_done (by kernel_rfl) ?_ _
    go_wp2_with fail
    go_ret
    exact ⟨Told.yes (unhide HPL), hbu⟩
  | succ n IH =>
    intro w rb ra rc row pa pc pl hR hI hn
    obtain ⟨c0, c1, c2, c3, hrb⟩ := hR.cells
    by_cases hpl : pl.length = V
    · rw [hpl] at c3
      have HPL := hide hpl
      clear hR hI hn hpl
      go_enter Try.func22, Try.ntmps22
      go_wp2_with fail
      refine wp_region_held_drew (S := fun u => u.cell? ⟨rb, 0, none⟩ = some (.int .i64 (V : Nat)) ∧ u.cell? ⟨rb, 3, none⟩ = some (.slice pa V pc)) (by kernel_rfl) ⟨c0, c3⟩ (fun hS0 => ?_)
      have hbu : Below w.heap.size w w.drew := b_dr
      generalize w.drew = u at hS0 hbu ⊢
      refine wpAnyH_take (i := 0) (v := ?_) rfl (by kernel_rfl) (by kernel_rfl) (by kernel_rfl) (fun _ _ _ h => h) (Or.inl ⟨by rfl, ?_⟩) hS0 ?_
      rotate_left
      · intro u hu; (try dsimp only at hu); go_simp; try with_reducible rfl
      simp only [Act.put, List.getElem_toArray, List.getElem_cons_zero, List.setIfInBounds_toArray, List.set_cons_zero, List.set_cons_succ]
      refine wpAnyH_take (i := 1) (v := ?_) rfl (by kernel_rfl) (by kernel_rfl) (by kernel_rfl) (fun _ _ _ h => h) (Or.inl ⟨by rfl, ?_⟩) hS0 ?_
      rotate_left
      · intro u hu; (try dsimp only at hu); go_simp; try with_reducible rfl
      simp only [Act.put, List.getElem_toArray, List.getElem_cons_zero, List.getElem_cons_succ, List.setIfInBounds_toArray, List.set_cons_zero, List.set_cons_succ]
      refine wpAnyH_take (i := 2) (v := ?_) rfl (by kernel_rfl) (by kernel_rfl) (by kernel_rfl) (fun _ _ _ h => h) (Or.inl ⟨by rfl, ?_⟩) hS0 ?_
      rotate_left
      · intro u hu; (try dsimp only at hu); go_simp; try with_reducible rfl
      simp only [Act.put, List.getElem_toArray, List.getElem_cons_zero, List.getElem_cons_succ, List.setIfInBounds_toArray, List.set_cons_zero, List.set_cons_succ]
      refine wpAnyH_take (i := 3) (v := ?_) rfl (by kernel_rfl) (by kernel_rfl) (by kernel_rfl) (fun _ _ _ h => h) (Or.inl ⟨by rfl, ?_⟩) hS0 ?_
      rotate_left
      · intro u hu; (try dsimp only at hu); go_simp; try with_reducible rfl
      simp only [Act.put, List.getElem_toArray, List.getElem_cons_zero, List.getElem_cons_succ, List.setIfInBounds_toArray, List.set_cons_zero, List.set_cons_succ]
      refine wpAnyH_take (i := 4) (v := ?_) rfl (by kernel_rfl) (by kernel_rfl) (by kernel_rfl) (fun _ _ _ h => h) (Or.inl ⟨by rfl, ?_⟩) hS0 ?_
      rotate_left
      · intro u hu; (try dsimp only at hu); go_simp; try with_reducible rfl
      simp only [Act.put, List.getElem_toArray, List.getElem_cons_zero, List.getElem_cons_succ, List.setIfInBounds_toArray, List.set_cons_zero, List.set_cons_succ]
      refine wpAnyH_take (i := 5) (v := ?_) rfl (by kernel_rfl) (by kernel_rfl) (by kernel_rfl) (fun _ _ _ h => h) (Or.inl ⟨by rfl, ?_⟩) hS0 ?_
      rotate_left
      · intro u hu; (try dsimp only at hu); go_simp; try with_reducible rfl
      simp only [Act.put, List.getElem_toArray, List.getElem_cons_zero, List.getElem_cons_succ, List.setIfInBounds_toArray, List.set_cons_zero, List.set_cons_succ]
      refine wpAnyH_take (i := 6) (v := ?_) rfl (by kernel_rfl) (by kernel_rfl) (by kernel_rfl) (fun _ _ _ h => h) (Or.inl ⟨by rfl, ?_⟩) hS0 ?_
      rotate_left
      · intro u hu; (try dsimp only at hu); go_simp; try with_reducible rfl
      simp only [Act.put, List.getElem_toArray, List.getElem_cons_zero, List.getElem_cons_succ, List.setIfInBounds_toArray, List.set_cons_zero, List.set_cons_succ]
      refine wpAnyH_take (i := 7) (v := ?_) rfl (by kernel_rfl) (by kernel_rfl) (by kernel_rfl) (fun _ _ _ h => h) (Or.inl ⟨by rfl, ?_⟩) hS0 ?_
      rotate_left
      · intro u hu; (try dsimp only at hu); go_simp; try with_reducible rfl
      simp only [Act.put, List.getElem_toArray, List.getElem_cons_zero, List.getElem_cons_succ, List.setIfInBounds_toArray, List.set_cons_zero, List.set_cons_succ]
      refine wpAnyH_take (i := 8) (v := ?_) rfl (by kernel_rfl) (by kernel_rfl) (by kernel_rfl) (fun _ _ _ h => h) (Or.inl ⟨by rfl, ?_⟩) hS0 ?_
      rotate_left
      · intro u hu; (try dsimp only at hu); go_simp; try with_reducible rfl
      simp only [Act.put, List.getElem_toArray, List.getElem_cons_zero, List.getElem_cons_succ, List.setIfInBounds_toArray, List.set_cons_zero, List.set_cons_succ]
      refine wpAnyH_take (i := 9) (v := ?_) rfl (by kernel_rfl) (by kernel_rfl) (by kernel_rfl) (fun _ _ _ h => h) (Or.inl ⟨by rfl, ?_⟩) hS0 ?_
      rotate_left
      · intro u hu; (try dsimp only at hu); go_simp; try with_reducible rfl
      simp only [Act.put, List.getElem_toArray, List.getElem_cons_zero, List.getElem_cons_succ, List.setIfInBounds_toArray, List.set_cons_zero, List.set_cons_succ]
      refine wpAnyH_take (i := 10) (v := ?_) rfl (by kernel_rfl) (by kernel_rfl) (by kernel_rfl) (fun _ _ _ h => h) (Or.inl ⟨by rfl, ?_⟩) hS0 ?_
      rotate_left
      · intro u hu; (try dsimp only at hu); go_simp; try with_reducible rfl
      simp only [Act.put, List.getElem_toArray, List.getElem_cons_zero, List.getElem_cons_succ, List.setIfInBounds_toArray, List.set_cons_zero, List.set_cons_succ]
      refine wpAnyH_done (by kernel_rfl) ?_ _
      go_wp2_with fail
      go_ret
      exact ⟨Told.yes (.inl (unhide HPL)), hbu⟩
    obtain ⟨pn, hpn⟩ : ∃ pn, pl.length = pn := ⟨_, rfl⟩
    rw [hpn] at c3
    have hpV : ((pn : Int) == (V : Int)) = false := by rw [beq_eq_false_iff_ne]; omega
    have HIH := hide IH
    have HR := hide hR
    have HI := hide hI
    have HP := hide hp
    have HSRC := hide hsrc
    have HN := hide hn
    have HNP := hide hpl
    obtain ⟨m, hm⟩ : ∃ m, es.length = m := ⟨_, rfl⟩
    have HM := hide hm
    have hV64 : V ≤ 64 := hp.v64
    have HENDS := hide (fun (y : Nat) (q : Nat) (hq : (Pl.outs es y).length = q) (u : World) (hu : Below w.heap.size w u) => (show Calls Try.prog 24 #[.agg #[.int .i64 (V : Nat), .slice a m cap], .int .i64 (y : Nat), .bool true] u fun e u' => (∃ v, e = .returned v ∧ u'.ownsRow u.heap.size 3 1 v q (zcells (toIs (Pl.outs es y)))) ∧ Below u.heap.size u u' from by
      have := refEnds_any u V a cap es (hR.edges.below hu) hp.n128 (y : Nat) true
      rw [ends_out, hq, hm] at this
      exact this))
    clear hR hI hn IH hpl hpn hm c1 c2 hp hsrc
    go_enter Try.func22, Try.ntmps22
    go_wp2_with fail
    refine wp_region_held_drew (S := fun u => u.cell? ⟨rb, 0, none⟩ = some (.int .i64 (V : Nat)) ∧ u.cell? ⟨rb, 3, none⟩ = some (.slice pa pn pc)) (by kernel_rfl) ⟨c0, c3⟩ (fun hS0 => ?_)
    have HB0 := hide (b_dr (w := w))
    clear c0 c3
    generalize w.drew = u at hS0 HB0 ⊢
    refine wpAnyH_take (i := 0) (v := ?_) rfl (by kernel_rfl) (by kernel_rfl) (by kernel_rfl) (fun _ _ _ h => h) (Or.inl ⟨by rfl, ?_⟩) hS0 ?_
    rotate_left
    · intro u hu; (try dsimp only at hu); go_simp; try with_reducible rfl
    simp only [Act.put, List.getElem_toArray, List.getElem_cons_zero, List.setIfInBounds_toArray, List.set_cons_zero, List.set_cons_succ]
    refine wpAnyH_take (i := 1) (v := ?_) rfl (by kernel_rfl) (by kernel_rfl) (by kernel_rfl) (fun _ _ _ h => h) (Or.inl ⟨by rfl, ?_⟩) hS0 ?_
    rotate_left
    · intro u hu; (try dsimp only at hu); go_simp; try with_reducible rfl
    simp only [Act.put, List.getElem_toArray, List.getElem_cons_zero, List.getElem_cons_succ, List.setIfInBounds_toArray, List.set_cons_zero, List.set_cons_succ]
    refine wpAnyH_take (i := 2) (v := ?_) rfl (by kernel_rfl) (by kernel_rfl) (by kernel_rfl) (fun _ _ _ h => h) (Or.inl ⟨by rfl, ?_⟩) hS0 ?_
    rotate_left
    · intro u hu; (try dsimp only at hu); go_simp; try with_reducible rfl
    simp only [Act.put, List.getElem_toArray, List.getElem_cons_zero, List.getElem_cons_succ, List.setIfInBounds_toArray, List.set_cons_zero, List.set_cons_succ]
    refine wpAnyH_take (i := 3) (v := ?_) rfl (by kernel_rfl) (by kernel_rfl) (by kernel_rfl) (fun _ _ _ h => h) (Or.inl ⟨by rfl, ?_⟩) hS0 ?_
    rotate_left
    · intro u hu; (try dsimp only at hu); go_simp; try with_reducible rfl
    simp only [Act.put, List.getElem_toArray, List.getElem_cons_zero, List.getElem_cons_succ, List.setIfInBounds_toArray, List.set_cons_zero, List.set_cons_succ]
    refine wpAnyH_take (i := 4) (v := ?_) rfl (by kernel_rfl) (by kernel_rfl) (by kernel_rfl) (fun _ _ _ h => h) (Or.inl ⟨by rfl, ?_⟩) hS0 ?_
    rotate_left
    · intro u hu; (try dsimp only at hu); go_simp; try with_reducible rfl
    simp only [Act.put, List.getElem_toArray, List.getElem_cons_zero, List.getElem_cons_succ, List.setIfInBounds_toArray, List.set_cons_zero, List.set_cons_succ]
    refine wpAnyH_take (i := 5) (v := ?_) rfl (by kernel_rfl) (by kernel_rfl) (by kernel_rfl) (fun _ _ _ h => h) (Or.inl ⟨by rfl, ?_⟩) hS0 ?_
    rotate_left
    · intro u hu; (try dsimp only at hu); go_simp; try with_reducible rfl
    simp only [Act.put, List.getElem_toArray, List.getElem_cons_zero, List.getElem_cons_succ, List.setIfInBounds_toArray, List.set_cons_zero, List.set_cons_succ]
    refine wpAnyH_take (i := 6) (v := ?_) rfl (by kernel_rfl) (by kernel_rfl) (by kernel_rfl) (fun _ _ _ h => h) (Or.inl ⟨by rfl, ?_⟩) hS0 ?_
    rotate_left
    · intro u hu; (try dsimp only at hu); go_simp; try with_reducible rfl
    simp only [Act.put, List.getElem_toArray, List.getElem_cons_zero, List.getElem_cons_succ, List.setIfInBounds_toArray, List.set_cons_zero, List.set_cons_succ]
    refine wpAnyH_take (i := 7) (v := ?_) rfl (by kernel_rfl) (by kernel_rfl) (by kernel_rfl) (fun _ _ _ h => h) (Or.inl ⟨by rfl, ?_⟩) hS0 ?_
    rotate_left
    · intro u hu; (try dsimp only at hu); go_simp; try with_reducible rfl
    simp only [Act.put, List.getElem_toArray, List.getElem_cons_zero, List.getElem_cons_succ, List.setIfInBounds_toArray, List.set_cons_zero, List.set_cons_succ]
    refine wpAnyH_take (i := 8) (v := ?_) rfl (by kernel_rfl) (by kernel_rfl) (by kernel_rfl) (fun _ _ _ h => h) (Or.inl ⟨by rfl, ?_⟩) hS0 ?_
    rotate_left
    · intro u hu; (try dsimp only at hu); go_simp; try with_reducible rfl
    simp only [Act.put, List.getElem_toArray, List.getElem_cons_zero, List.getElem_cons_succ, List.setIfInBounds_toArray, List.set_cons_zero, List.set_cons_succ]
    refine wpAnyH_take (i := 9) (v := ?_) rfl (by kernel_rfl) (by kernel_rfl) (by kernel_rfl) (fun _ _ _ h => h) (Or.inl ⟨by rfl, ?_⟩) hS0 ?_
    rotate_left
    · intro u hu; (try dsimp only at hu); go_simp; try with_reducible rfl
    simp only [Act.put, List.getElem_toArray, List.getElem_cons_zero, List.getElem_cons_succ, List.setIfInBounds_toArray, List.set_cons_zero, List.set_cons_succ]
    refine wpAnyH_take (i := 10) (v := ?_) rfl (by kernel_rfl) (by kernel_rfl) (by kernel_rfl) (fun _ _ _ h => h) (Or.inl ⟨by rfl, ?_⟩) hS0 ?_
    rotate_left
    · intro u hu; (try dsimp only at hu); go_simp; try with_reducible rfl
    simp only [Act.put, List.getElem_toArray, List.getElem_cons_zero, List.getElem_cons_succ, List.setIfInBounds_toArray, List.set_cons_zero, List.set_cons_succ]
    refine wpAnyH_done (by kernel_rfl) ?_ _
    clear hS0
    go_wp2_with fail
    go_loopw [3] (fun i wr => ∃ k : Nat, i = .int .i64 k ∧ k ≤ V ∧ Hid (Below w.heap.size w wr) ∧ Hid (∀ y : Nat, y < k → ∀ zs ends row2 pl2, Placed V es src row pl (y : Nat) zs 0 ends row2 pl2 → ¬ CanR V es src n row2 pl2)) (fun i wr => V - (intOf i).toNat)
    case atStart => exact ⟨0, rfl, by omega, HB0, fun y hy => by omega⟩
    case round =>
      obtain ⟨k, rfl, hk, HB, HA⟩ := hrel
      have hRr := (unhide HR).below (unhide HB)
      obtain ⟨c0, c1, _, _, hrbr⟩ := hRr.cells
      rw [unhide HM] at c1
      by_cases hlt : k < V
      · have hkV : (k : Int) < (V : Int) := by omega
        have hwk : IntKind.i64.wrap ((k : Int) + 1) = (k : Int) + 1 := by rw [IntKind.wrap_i64]; omega
        have CR := hide (refReady_any wr rb V a cap es ra rc row pa pc pl src hRr (unhide HI) (unhide HP) (unhide HSRC) (k : Nat))
        clear hRr
        go_wp2_with fail
        refine (unhide CR).mono ?_
        rintro e w1 ⟨⟨r, rfl, hr⟩, hb1⟩
        have HB1 := hide ((unhide HB).trans (hb1.mono (unhide HB).size))
        have d0 : w1.cell? ⟨rb, 0, none⟩ = some (.int .i64 (V : Nat)) := by rw [hb1.cell (p := ⟨rb, 0, none⟩) hrbr]; exact c0
        have d1 : w1.cell? ⟨rb, 1, none⟩ = some (.slice a m cap) := by rw [hb1.cell (p := ⟨rb, 1, none⟩) hrbr]; exact c1
        clear CR hb1 c0 c1
        by_cases hrd : ReadyAt V es src row pl k
        case neg =>
          have hrf : r = false := by
            cases r with
            | false => rfl
            | true => obtain ⟨y, he, h⟩ := hr.1 rfl; obtain rfl : y = k := (by omega); exact absurd h hrd
          subst hrf
          have HRD := hide hrd
          clear hr hrd
          go_wp2_with fail
          go_roundw
          case rel =>
            refine ⟨k + 1, by go_num, by omega, HB1, fun y hy zs ends row2 pl2 hP => ?_⟩
            by_cases hyk : y < k
            · exact unhide HA y hyk zs ends row2 pl2 hP
            · obtain rfl : y = k := by omega
              obtain ⟨y', _, he, _, h, _⟩ := hP.at0
              obtain rfl : y' = y := by omega
              exact absurd h (unhide HRD)
          case measure => simp [intOf]; omega
        have hrt : r = true := hr.2 ⟨k, rfl, hrd⟩
        subst hrt
        obtain ⟨q, hq⟩ : ∃ q, (Pl.outs es k).length = q := ⟨_, rfl⟩
        have CE := hide (unhide HENDS k q hq w1 (unhide HB1))
        have hq10 : q ≤ 10 := by rw [← hq]; exact Nat.le_trans (Pl.sel_len _ _ _) h10
        have HQ := hide hq
        have HRD := hide hrd
        clear hr hrd hq
        go_wp2_with fail
        refine (unhide CE).mono ?_
        rintro e w2 ⟨⟨v, rfl, ho⟩, hb2⟩
        obtain ⟨va, vc, hv, hvc, hvn, _, _⟩ := cr_of_owns ho (by omega)
        obtain ⟨va', vc', hv', _, hN2⟩ := ns_of_owns ho (by omega)
        subst hv
        cases hv'
        have CO := hide (orders_any q w2 va vc (toIs (Pl.outs es k)) hN2 hq10 hvn hvc)
        have HB2 := hide ((unhide HB1).trans (hb2.mono (unhide HB1).size))
        clear ho hb2 hvn hvc hN2 CE d0 d1
        go_wp2_with fail
        refine (unhide CO).mono ?_
        rintro e w3 ⟨⟨v4, rfl, ho4⟩, hb3⟩
        obtain ⟨ords, hord⟩ : ∃ ords, ordsF q (toIs (Pl.outs es k)) = ords := ⟨_, rfl⟩
        rw [hord] at ho4
        have HMEM := hide (show ∀ t : List Int, t ∈ ords ↔ t.Perm (toIs (Pl.outs es k)) from fun t => by rw [← hord]; exact mem_ords q _ t (by rw [toIs_length]; exact unhide HQ))
        have hLb : ords.length ≤ 4000000 := by rw [← hord, ords_len q _ (by rw [toIs_length]; exact unhide HQ)]; exact fct_small hq10
        obtain ⟨ga, gc, rfl⟩ := ho4.shape
        have HO4 := hide ho4
        have HB3 := hide ((unhide HB2).trans (hb3.mono (unhide HB2).size))
        obtain ⟨L, hL⟩ : ∃ L, ords.length = L := ⟨_, rfl⟩
        rw [hL] at hLb ⊢
        have HL := hide hL
        clear ho4 hb3 hord hL CO
        go_wp2_with fail
        go_loopw [5] (fun i wr => ∃ j : Nat, i = .int .i64 j ∧ j ≤ L ∧ Hid (Below w3.heap.size w3 wr) ∧ Hid (∀ i, i < j → ∀ ends row2 pl2, Placed V es src row pl (k : Nat) (ords.getD i []) 0 ends row2 pl2 → ¬ CanR V es src n row2 pl2)) (fun i wr => L - (intOf i).toNat)
        case atStart => exact ⟨0, rfl, by omega, Below.refl _ _, fun i hi => by omega⟩
        case round =>
          obtain ⟨j, rfl, hj, HBJ, HAJ⟩ := hrel
          by_cases hjl : j < L
          · have HBW := hide ((unhide HB3).trans ((unhide HBJ).mono (unhide HB3).size))
            have hRj := (unhide HR).below (unhide HBW)
            have hrl : row.length ≤ 1000 := by have := (unhide HI).rlen; have := (unhide HI).plen; omega
            have hpl' : pl.length ≤ 1000 := by have := (unhide HI).plen; omega
            have CC := hide (refCopy_any wr rb V a cap es ra rc row pa pc pl hRj hrl hpl')
            have hjL : (j : Int) < (L : Int) := by omega
            have hwj : IntKind.i64.wrap ((j : Int) + 1) = (j : Int) + 1 := by rw [IntKind.wrap_i64]; omega
            clear hRj hrl hpl'
            go_wp2_with fail
            refine (unhide CC).mono ?_
            rintro e w5 ⟨yb, ya, yc, za, zc, rfl, hyb, hRy, hb5⟩
            obtain ⟨g6, c6, at', ct, hv6, hg61, hg62, ct0, hNt, htc, _⟩ := (((unhide HO4).below (unhide HBJ)).below hb5).at (j := j) (by rw [unhide HL]; exact hjl)
            obtain ⟨t, ht⟩ : ∃ t, ords.getD j [] = t := ⟨_, rfl⟩
            rw [ht] at ct0 hNt htc
            have htm : t.Perm (toIs (Pl.outs es k)) := (unhide HMEM t).1 (by rw [← ht, List.getD_eq_getElem?_getD, List.getElem?_eq_getElem (show j < ords.length by rw [unhide HL]; exact hjl)]; exact List.getElem_mem _)
            rw [unhide HL] at hv6
            cases hv6
            obtain ⟨tn, htn⟩ : ∃ tn, t.length = tn := ⟨_, rfl⟩
            rw [htn] at ct0 hNt
            have CP := hide (refPlace_any w5 yb V a cap es ya yc row za zc pl src hRy (unhide HI) (unhide HP) (unhide HSRC) (k : Nat) (some at') tn ct t hNt (fun h => by cases h))
            have HTM := hide htm
            have HT := hide ht
            have HB5 := hide hb5
            have HYB := hide hyb
            clear CC hRy hb5 hNt htm ht htc hyb
            go_wp2_with fail
            refine (unhide CP).mono ?_
            rintro e w6 ⟨code, ends, row2, pl2, v, ra', rc', pa', pc', hP, rfl, _, hR2, _, _, hbz, _⟩
            obtain rfl : code = 0 := hP.ok (unhide HRD) (unhide HTM)
            have hI2 := hP.inv (unhide HI) (unhide HP) (unhide HSRC)
            have hn2 : V - pl2.length ≤ n := by
              obtain ⟨y, o, _, _, _, _, _, h, _⟩ := hP.at0
              rw [h]
              have := unhide HN
              simp
              omega
            have CN := hide (unhide HIH w6 yb ra' rc' row2 pa' pc' pl2 hR2 hI2 hn2)
            have HP2 := hide hP
            have HB6 := hide ((unhide HB5).trans (hbz.bel.mono (unhide HYB)))
            clear CP hP hR2 hbz hI2 hn2 ct0
            go_wp2_with fail
            refine (unhide CN).mono ?_
            rintro e w7 ⟨⟨r, rfl, hr⟩, hb7⟩
            have HB7 := hide ((unhide HB6).trans (hb7.mono (unhide HB6).size))
            have HRR := hide hr
            clear CN hb7 hr HB5 HB6
            cases r with
            | true =>
              go_wp2_with fail
              go_ret
              exact ⟨Told.yes (.inr ⟨k, t, ends, row2, pl2, unhide HP2, by have h := unhide HRR; simpa using h⟩), (unhide HBW).trans ((unhide HB7).mono (unhide HBW).size)⟩
            | false =>
              go_wp2_with fail
              go_roundw
              case rel =>
                refine ⟨j + 1, by go_num, by omega, (unhide HBJ).trans ((unhide HB7).mono (unhide HBJ).size), fun i hi ends' row2' pl2' hP' => ?_⟩
                by_cases hij : i < j
                · exact unhide HAJ i hij _ _ _ hP'
                · obtain rfl : i = j := by omega
                  rw [unhide HT] at hP'
                  obtain ⟨_, _, rfl, rfl⟩ := hP'.det (unhide HP2)
                  exact fun h => by have h2 := unhide HRR; first | (simp at h2; exact h2 h) | exact absurd (h2.2 h) (by simp)
              case measure => simp [intOf]; omega
          · obtain rfl : j = L := by omega
            go_wp2_with fail
            go_roundw
            case rel =>
              refine ⟨k + 1, by go_num, by omega, (unhide HB3).trans ((unhide HBJ).mono (unhide HB3).size), fun y hy zs ends row2 pl2 hP => ?_⟩
              by_cases hyk : y < k
              · exact unhide HA y hyk zs ends row2 pl2 hP
              · obtain rfl : y = k := by omega
                obtain ⟨y', o, he, _, _, hz, ho, _⟩ := hP.at0
                obtain rfl : y' = y := by omega
                obtain ⟨i, hi, hiz⟩ := List.mem_iff_getElem.1 ((unhide HMEM zs).2 (by rw [hz]; exact ho.map _))
                have e : ords.getD i [] = zs := by rw [List.getD_eq_getElem?_getD, List.getElem?_eq_getElem hi]; exact hiz
                exact unhide HAJ i (by rw [← unhide HL]; exact hi) ends row2 pl2 (by rw [e]; exact hP)
            case measure => simp [intOf]; omega
      · obtain rfl : k = V := by omega
        clear hRr
        go_wp2_with fail
        go_ret
        refine ⟨Told.no fun h => ?_, unhide HB⟩
        rcases h with h | ⟨y, zs, ends, row2, pl2, hP, hC⟩
        · exact unhide HNP h
        · obtain ⟨y', _, he, hyV, _⟩ := hP.at0
          exact unhide HA y (by omega) zs ends row2 pl2 hP hC
end Go.Proofs.Ytdkchihomllokaa
/-
  A front of the program and the document's beside it. No conditions.
-/
namespace Go.Proofs.Ytdkchihomllokaa
open Go.RowKit
set_option linter.unusedVariables false
set_option maxRecDepth 20000

theorem Rb.keep2 {w w' : World} {rb V : Nat} {a : Option Addr} {cap : Nat} {es : List (Nat × Nat)} {ra : Option Addr} {rc : Nat} {row : List It} {pa : Option Addr} {pc : Nat} {pl : List Nat} (h : Rb w rb V a cap es ra rc row pa pc pl) {B : Nat} {S : Nat → Prop} (hz : Bz B S w w') (h1 : ¬ S rb)
    (ha : 0 < es.length → ∀ g off, a = some ⟨g, off, none⟩ → ¬ S g) (hr : row ≠ [] → ∀ g off, ra = some ⟨g, off, none⟩ → ¬ S g) (hp : pl ≠ [] → ∀ g off, pa = some ⟨g, off, none⟩ → ¬ S g) : Rb w' rb V a cap es ra rc row pa pc pl := by
  refine ⟨by rw [hz.far rb h.cells.2.2.2.2 h1]; exact h.box, h.edges.keep hz.size (fun h0 g off he hg => hz.far g hg (ha h0 g off he)), ?_, ?_, h.rno, h.pno, h.rcap, h.ne1, h.ne2, h.ne3⟩
  · by_cases e : row = []
    · subst e; exact Is.nil0 _ _
    · exact Cr.keep h.items hz.size (fun g off he hg => hz.far g hg (hr e g off he))
  · by_cases e : pl = []
    · subst e; exact Ns.nil _ _
    · exact h.pls.keep0 hz.size (fun g off he hg => hz.far g hg (hp e g off he))
theorem Rb.rlt {w : World} {rb V : Nat} {a : Option Addr} {cap : Nat} {es : List (Nat × Nat)} {ra : Option Addr} {rc : Nat} {row : List It} {pa : Option Addr} {pc : Nat} {pl : List Nat} (h : Rb w rb V a cap es ra rc row pa pc pl) : (row ≠ [] → ∀ g off, ra = some ⟨g, off, none⟩ → g < w.heap.size) ∧ (pl ≠ [] → ∀ g off, pa = some ⟨g, off, none⟩ → g < w.heap.size) := by
  constructor
  · intro hne g off he
    obtain ⟨g', off', he', hg, _⟩ := h.items.at (List.length_pos_iff.2 hne)
    rw [he] at he'; cases he'; exact hg
  · intro hne g off he
    obtain ⟨g', off', he', hg, _⟩ := h.pls.2.2 0 (List.length_pos_iff.2 hne)
    rw [he] at he'; cases he'; exact hg

/-- both fronts -/
structure Bo (N b rb V : Nat) (es : List (Nat × Nat)) (src : Nat) (s : Fs) (a : Option Addr) (cap : Nat) (w : World) (ra : Option Addr) (pv : Value) (row : List It) (pl : List Nat) (xa : Option Addr) (xc : Nat) (ya : Option Addr) (yc : Nat) (row' : List It) (pl' : List Nat) : Prop where
  f : Fy N b w b V es s ra pv row pl
  r : Rb w rb V a cap es xa xc row' ya yc pl'
  i : Inv V es src row pl
  bN : b < N
  rN : N ≤ rb
  d1 : ∀ g off, ra = some ⟨g, off, none⟩ → g ≠ rb
  d2 : pv.ownBlock ≠ some rb
  d3 : row' ≠ [] → ∀ g off, xa = some ⟨g, off, none⟩ → g ≠ b ∧ pv.ownBlock ≠ some g
  d4 : pl' ≠ [] → ∀ g off, ya = some ⟨g, off, none⟩ → g ≠ b ∧ pv.ownBlock ≠ some g
  da : 0 < es.length → ∀ g off, a = some ⟨g, off, none⟩ → g < N ∧ g ≠ b
  z3 : row' = [] → xa = none
  z4 : pl' = [] → ya = none
theorem Bo.below {N b rb V : Nat} {es : List (Nat × Nat)} {src : Nat} {s : Fs} {a : Option Addr} {cap : Nat} {w w' : World} {ra : Option Addr} {pv : Value} {row : List It} {pl : List Nat} {xa : Option Addr} {xc : Nat} {ya : Option Addr} {yc : Nat} {row' : List It} {pl' : List Nat} (h : Bo N b rb V es src s a cap w ra pv row pl xa xc ya yc row' pl') (hb : Below w.heap.size w w') : Bo N b rb V es src s a cap w' ra pv row pl xa xc ya yc row' pl' :=
  ⟨h.f.below hb, h.r.below hb, h.i, h.bN, h.rN, h.d1, h.d2, h.d3, h.d4, h.da, h.z3, h.z4⟩
theorem Bo.stepF {N b rb V : Nat} {es : List (Nat × Nat)} {src : Nat} {s : Fs} {a : Option Addr} {cap : Nat} {w w' : World} {ra : Option Addr} {pv : Value} {row : List It} {pl : List Nat} {xa : Option Addr} {xc : Nat} {ya : Option Addr} {yc : Nat} {row' : List It} {pl' : List Nat} (h : Bo N b rb V es src s a cap w ra pv row pl xa xc ya yc row' pl') (hp : Plain V es) (hsrc : bare (Pl.ins es) V = [src]) {x : Int} {zs : List Int} {e : Ending} (hs : StepTold N b b V es src s ra pv row pl x zs w w' e) :
    ∃ code ends row2 pl2 v ra' pv', Placed V es src row pl x zs code ends row2 pl2 ∧ e = .returned (.tuple #[v, .int .i64 code]) ∧ w'.ownsRow w.heap.size 72 3 v ends.length (icells ends) ∧ Bo N b rb V es src s a cap w' ra' pv' row2 pl2 xa xc ya yc row' pl' ∧ (∀ g, v.ownBlock = some g → pv'.ownBlock ≠ some g) ∧ Bz (min b N) (fun i => i = b ∨ pv.ownBlock = some i) w w' := by
  obtain ⟨code, ends, row2, pl2, v, ra', pv', hP, rfl, hov, hF, hra, hpv, hvp, hz⟩ := hs
  have hup := h.f.up
  have hrl := h.r.rlt
  have hrb := h.r.cells.2.2.2.2
  refine ⟨code, ends, row2, pl2, v, ra', pv', hP, rfl, hov, ⟨hF, h.r.keep2 hz ?_ ?_ ?_ ?_, hP.inv h.i hp hsrc, h.bN, h.rN, ?_, ?_, ?_, ?_, h.da, h.z3, h.z4⟩, hvp, hz⟩
  · rintro (e | e)
    · have := h.bN; have := h.rN; omega
    · exact h.d2 e
  · rintro h0 g off he (e | e)
    · exact (h.da h0 g off he).2 e
    · have := (hup.2.2 g e).1; have := (h.da h0 g off he).1; omega
  · rintro hne g off he (e | e)
    · exact (h.d3 hne g off he).1 e
    · exact (h.d3 hne g off he).2 e
  · rintro hne g off he (e | e)
    · exact (h.d4 hne g off he).1 e
    · exact (h.d4 hne g off he).2 e
  · intro g off he
    rcases hra g off he with e | e
    · exact h.d1 g off e
    · omega
  · intro e
    rcases hpv _ e with e | e
    · exact h.d2 e
    · omega
  · intro hne g off he
    refine ⟨(h.d3 hne g off he).1, fun e => ?_⟩
    rcases hpv _ e with e | e
    · exact (h.d3 hne g off he).2 e
    · have := hrl.1 hne g off he; omega
  · intro hne g off he
    refine ⟨(h.d4 hne g off he).1, fun e => ?_⟩
    rcases hpv _ e with e | e
    · exact (h.d4 hne g off he).2 e
    · have := hrl.2 hne g off he; omega
theorem Bo.stepR {N b rb V : Nat} {es : List (Nat × Nat)} {src : Nat} {s : Fs} {a : Option Addr} {cap : Nat} {w w' : World} {ra : Option Addr} {pv : Value} {row : List It} {pl : List Nat} {xa : Option Addr} {xc : Nat} {ya : Option Addr} {yc : Nat} {row' : List It} {pl' : List Nat} (h : Bo N b rb V es src s a cap w ra pv row pl xa xc ya yc row' pl') {x : Int} {zs : List Int} {e : Ending} (hs : RefStep rb V a cap es src xa row' ya pl' x zs w w' e) :
    ∃ code ends row2 pl2 v xa' xc' ya' yc', Placed V es src row' pl' x zs code ends row2 pl2 ∧ e = .returned (.tuple #[v, .int .i64 code]) ∧ w'.ownsRow w.heap.size 72 3 v ends.length (icells ends) ∧ Bo N b rb V es src s a cap w' ra pv row pl xa' xc' ya' yc' row2 pl2 ∧ Bz rb (fun i => i = rb) w w' := by
  obtain ⟨code, ends, row2, pl2, v, xa', xc', ya', yc', hP, rfl, hov, hR, hxa, hya, hz, hst⟩ := hs
  have hup := h.f.up
  have hrl := h.r.rlt
  have hbN := h.bN
  have hrN := h.rN
  refine ⟨code, ends, row2, pl2, v, xa', xc', ya', yc', hP, rfl, hov, ⟨h.f.keep hz (by omega) (fun g off he => h.d1 g off he) (fun g hg e => h.d2 (by rw [hg, e])) (fun i hi => .inr (by omega)), hR, h.i, h.bN, h.rN, h.d1, h.d2, ?_, ?_, h.da, ?_, ?_⟩, hz⟩
  · intro hne g off he
    rcases hxa g off he with e | e
    · by_cases h0 : row' = []
      · rw [h.z3 h0] at e; cases e
      · exact h.d3 h0 g off e
    · exact ⟨by omega, fun e2 => by have := (hup.2.2 g e2).2; omega⟩
  · intro hne g off he
    rcases hya g off he with e | e
    · by_cases h0 : pl' = []
      · rw [h.z4 h0] at e; cases e
      · exact h.d4 h0 g off e
    · exact ⟨by omega, fun e2 => by have := (hup.2.2 g e2).2; omega⟩
  · intro he
    rcases hP with ⟨rfl, _, h1, _⟩ | ⟨rfl, _, h1, _⟩ | ⟨_, y, o, _, _, _, _, _, h1⟩
    · rw [(hst (by decide)).1]; exact h.z3 (h1 ▸ he)
    · rw [(hst (by decide)).1]; exact h.z3 (h1 ▸ he)
    · exfalso
      rcases h1 with ⟨_, _, _, h2⟩ | ⟨_, A, C, _, h2⟩
      · exact above_ne es y o (h2 ▸ he)
      · rw [h2] at he
        simp at he
        exact above_ne es y o he.2.1
  · intro he
    rcases hP with ⟨rfl, _, _, h1, _⟩ | ⟨rfl, _, _, h1, _⟩ | ⟨_, y, o, _, _, _, _, h1, _⟩
    · rw [(hst (by decide)).2]; exact h.z4 (h1 ▸ he)
    · rw [(hst (by decide)).2]; exact h.z4 (h1 ▸ he)
    · rw [h1] at he; simp at he
end Go.Proofs.Ytdkchihomllokaa

/-
  The contract of the reader's method graph. Conditions: as in the reader's text.
-/
import Derived.Test.YtdcfhdpbpfgohaaDoorGraphParts
import Derived.Deep.RegionWith
import Derived.Deep.AppendLies
namespace Go.Proofs.YtdcfhdpbpfgohaaDoor
open Go.RowKit
set_option linter.unusedVariables false

theorem info44 : (Tryd.prog.info? 38).map (fun i => (i.zero, i.size, i.bytes)) = some (some (.agg #[.int .i64 0, .int .i64 0]), 2, 16) := by kernel_rfl

theorem cell_two_new (w : World) (x y : Value) (t : TypeId) : ∀ j u, [x, y][j]? = some u → (w.alloc (.cells #[x, y] t)).cell? ((⟨w.heap.size, 0, none⟩ : Addr).add j) = some u := by
  intro j u hj
  match j, hj with
  | 0, hj => simp at hj; subst hj; simp [Addr.add]
  | 1, hj => simp at hj; subst hj; simp [Addr.add]

theorem Rd.other {w : World} {b : Nat} {s : ByteArray} {i : Nat} (h : Rd w b s i) {p : Addr} (hp : b ≠ p.block) {v : Value} : Rd (w.setCell p v) b s i := by
  unfold Rd at h ⊢
  rw [Below.heap_setCell _ _ _ _ hp]
  exact h
theorem Nb.start {w : World} {b : Nat} {o : Obj} (hb : b < w.heap.size) : Nb b w.heap.size w (w.alloc o) :=
  ⟨rfl, rfl, rfl, by simp, fun i hi _ => Below.heap_alloc _ _ _ hi⟩

set_option maxHeartbeats 1000000 in
theorem graph_none1 (w : World) (b : Nat) (s : ByteArray) (i c : Nat) (h : Rd w b s i) (hb : b < w.heap.size) (hs : s.size ≤ maxLen) (hi : i ≤ s.size) (hn : Pl.pair (s.data.toList.drop i) = (c, none)) :
    Calls Tryd.prog 16 #[.pointer (some ⟨b, 0, none⟩)] w fun e w' => e = .returned (.tuple #[.agg #[.int .i64 0, .slice none 0 0], .bool false]) ∧ Rd w' b s (i + c) ∧ Nb b w.heap.size w w' := by
  have Hn := hide hn
  clear hn
  have h2 : Rd (w.alloc (Obj.cells #[Value.int IntKind.i64 0, Value.slice none 0 0] 24)) b s i := by
    unfold Rd at h ⊢
    rw [Below.heap_alloc _ _ _ hb]
    exact h
  go_enter Tryd.func16, Tryd.ntmps16
  go_wp2_with fail
  refine (pair_no _ b s i c h2 hs hi (unhide Hn)).mono ?_
  rintro e w1 ⟨rfl, hr1, ha1⟩
  have hbk : w1.heap[w.heap.size]? = some (.cells #[.int .i64 0, .slice none 0 0] 24) := by
    rw [ha1.block _ (by omega)]
    exact (MapKept.heap_alloc w _).1
  have c0 : w1.cell? ⟨w.heap.size, 0, none⟩ = some (.int .i64 0) := by simp [World.cell?, hbk]
  have c1 : w1.cell? ⟨w.heap.size, 1, none⟩ = some (.slice none 0 0) := by simp [World.cell?, hbk]
  have f0 : w1.frozen? ⟨w.heap.size, 0, none⟩ = false := by simp [World.frozen?, hbk]
  have f1 : w1.frozen? ⟨w.heap.size, 1, none⟩ = false := by simp [World.frozen?, hbk]
  have HK := hide hbk
  clear hbk
  go_wp2_with fail
  refine bodyPost_ret (v := .tuple #[.agg #[.int .i64 0, .slice none 0 0], .bool false]) (by simp [results, Tryd.results16, go_sem, c0, c1]) rfl ⟨rfl, ?_, ?_⟩
  · exact Rd.other (Rd.other hr1 (Nat.ne_of_lt hb)) (Nat.ne_of_lt hb)
  · exact ((Nb.start hb).adv ha1).ofBelow (((Below.refl _ _).setCell (p := ⟨w.heap.size, 0, none⟩) (Nat.le_refl _) _).setCell (p := ⟨w.heap.size, 1, none⟩) (Nat.le_refl _) _)

theorem below_draws {B : Nat} {u w : World} (h : Below B u w) (n : Nat) : Below B u (w.drewN n) := h.trans ⟨rfl, rfl, rfl, Nat.le_refl _, fun _ _ => rfl⟩
theorem rfl_ending {v : Value} {p q : Bool} (h : p = q) : Ending.returned (.tuple #[v, .bool p]) = .returned (.tuple #[v, .bool q]) := by rw [h]

theorem GRel.ends {w wr : World} {b : Nat} {s : ByteArray} {j : Nat} {V : Int} {v' : Value} {k : Nat} {es : List (Nat × Nat)} (hb : b < w.heap.size) (h : GRel w wr b s j V v' k es) (n : Nat) (x y : Value) :
    (((wr.drewN n).setCell ⟨w.heap.size, 0, none⟩ x).setCell ⟨w.heap.size, 1, none⟩ y).ownsRow (w.heap.size + 2) 38 2 v' k (ecells es) ∧
    Rd (((wr.drewN n).setCell ⟨w.heap.size, 0, none⟩ x).setCell ⟨w.heap.size, 1, none⟩ y) b s j ∧
    Nb b w.heap.size w (((wr.drewN n).setCell ⟨w.heap.size, 0, none⟩ x).setCell ⟨w.heap.size, 1, none⟩ y) := by
  refine ⟨ownsRow_setCell_below (ownsRow_setCell_below (w := wr.drewN n) h.own (by simp) _) (by simp) _, Rd.other (Rd.other (w := wr.drewN n) h.rd (Nat.ne_of_lt hb)) (Nat.ne_of_lt hb), ?_⟩
  refine h.nb.ofBelow (((below_draws (Below.refl _ _) n).setCell (p := ⟨w.heap.size, 0, none⟩) (Nat.le_refl _) _).setCell (p := ⟨w.heap.size, 1, none⟩) (Nat.le_refl _) _)

theorem graph_es {w wr : World} {b : Nat} {s : ByteArray} {j : Nat} {V k cap n : Nat} {av : Option Addr} {es : List (Nat × Nat)} {x y : Value} (hb : b < w.heap.size) (h : GRel w wr b s j V (.slice av k cap) k es) (hk : k ≤ 999999) :
    ∀ es', some es = some es' → ((V : Int) = V ∧ k = es'.length ∧ Es (w.heap.size + 2) (((wr.drewN n).setCell ⟨w.heap.size, 0, none⟩ x).setCell ⟨w.heap.size, 1, none⟩ y) av k (toI es')) := by
  intro es' he
  cases he
  refine ⟨rfl, h.len.symm, ?_⟩
  obtain ⟨a, cp, hv, hE⟩ := es_of_owns (GRel.ends hb h n x y).1 h.len (by omega)
  cases hv
  exact hE
theorem graph_rd {w wr : World} {b : Nat} {s : ByteArray} {j j' : Nat} {V : Int} {v' : Value} {k n : Nat} {es : List (Nat × Nat)} {x y : Value} (hb : b < w.heap.size) (h : GRel w wr b s j V v' k es) (hj : j = j') (hk : k ≤ 999999) :
    Rd (((wr.drewN n).setCell ⟨w.heap.size, 0, none⟩ x).setCell ⟨w.heap.size, 1, none⟩ y) b s j' := by
  subst hj
  exact (GRel.ends hb h n x y).2.1
theorem graph_nb {w wr : World} {b : Nat} {s : ByteArray} {j : Nat} {V : Int} {v' : Value} {k n : Nat} {es : List (Nat × Nat)} {x y : Value} (hb : b < w.heap.size) (h : GRel w wr b s j V v' k es) (hk : k ≤ 999999) :
    Nb b w.heap.size w (((wr.drewN n).setCell ⟨w.heap.size, 0, none⟩ x).setCell ⟨w.heap.size, 1, none⟩ y) := (GRel.ends hb h n x y).2.2

set_option maxHeartbeats 2000000 in
theorem graph_loop (w : World) (b : Nat) (s : ByteArray) (i c V m : Nat) (h : Rd w b s i) (hb : b < w.heap.size) (hs : s.size ≤ maxLen) (hi : i ≤ s.size) (hn : Pl.pair (s.data.toList.drop i) = (c, some (V, m)))
    (c2 : Nat) (r : Option (List (Nat × Nat))) (he : Pl.edges (s.data.toList.drop (i + c)) m = (c2, r)) :
    Calls Tryd.prog 16 #[.pointer (some ⟨b, 0, none⟩)] w fun e w' => ∃ (q : Int) (a : Option Addr) (n cap : Nat), e = .returned (.tuple #[.agg #[.int .i64 q, .slice a n cap], .bool (r.isSome && decide (i + c + c2 = s.size))]) ∧
      (∀ es, r = some es → q = V ∧ n = es.length ∧ Es (w.heap.size + 2) w' a n (toI es)) ∧ Rd w' b s (i + c + c2) ∧ Nb b w.heap.size w w' := by
  have hlen : s.data.toList.length = s.size := by rw [Array.length_toList]; rfl
  have hmv := Pl.pair_val hn
  have hpl := Pl.pair_le (s.data.toList.drop i)
  rw [hn] at hpl
  simp only [List.length_drop, hlen] at hpl
  have Hn := hide hn
  have He := hide he
  have HL := hide hlen
  clear hn he hlen
  have h2 : Rd (w.alloc (Obj.cells #[Value.int IntKind.i64 0, Value.slice none 0 0] 24)) b s i := by
    unfold Rd at h ⊢
    rw [Below.heap_alloc _ _ _ hb]
    exact h
  obtain ⟨i0, hi0, hz0, hz1, hz2⟩ := info_parts info44
  have HI := hide hi0
  have HZ0 := hide hz0
  have HZ1 := hide hz1
  have HZ2 := hide hz2
  clear hi0 hz0 hz1 hz2
  go_enter Tryd.func16, Tryd.ntmps16
  go_wp2_with fail
  refine (pair_yes _ b s i c V m h2 hs hi (unhide Hn)).mono ?_
  rintro e w1 ⟨rfl, hr1, ha1⟩
  have hw1 : w1.heap.size = w.heap.size + 1 := by rw [ha1.size]; simp
  have HG := hide (GRel.start (V := V) hb ha1 hr1)
  clear ha1 h2 h
  go_wp2_with fail
  go_loopw [23] (fun q wr => ∃ (k j : Nat) (es : List (Nat × Nat)) (v' : Value), q = .int .i64 k ∧ k ≤ m ∧ j ≤ s.size ∧ GRel w wr b s j V v' k es ∧ j + (Pl.edges (s.data.toList.drop j) (m - k)).1 = i + c + c2 ∧ (Pl.edges (s.data.toList.drop j) (m - k)).2.map (es ++ ·) = r) (fun q wr => m - (intOf q).toNat)
  case atStart => exact ⟨0, i + c, [], _, rfl, by omega, by omega, unhide HG, by rw [Nat.sub_zero, unhide He], by rw [Nat.sub_zero, unhide He]; simp⟩
  case round =>
    obtain ⟨k, j, es, v', rfl, hk, hj, hR, hp, hq⟩ := hrel
    have HP := hide hp
    have HQ := hide hq
    have HR := hide hR
    obtain ⟨r0, r1, rf0, rf1, g0, g1, gf1⟩ := hR.cells
    have hrd := hR.rd
    have hsz := hR.sz
    clear hp hq hR HG
    by_cases hlt : k < m
    · obtain ⟨c3, p3, h3⟩ : ∃ c3 p3, Pl.pair (s.data.toList.drop j) = (c3, p3) := ⟨_, _, rfl⟩
      have hl3 := Pl.pair_le (s.data.toList.drop j)
      rw [h3] at hl3
      simp only [List.length_drop, unhide HL] at hl3
      have H3 := hide h3
      have hmk : m - k = (m - k - 1) + 1 := by omega
      cases p3 with
      | none =>
        have e1 := Pl.edges_no (n := m - k - 1) h3
        rw [← hmk] at e1
        have hp := unhide HP
        have hq := unhide HQ
        rw [e1] at hp hq
        simp only [Option.map_none] at hp hq
        clear e1 hmk h3
        subst hq
        have HP2 := hide hp
        clear hp
        go_wp2_with fail
        refine (pair_no _ b s j c3 hrd hs hj (unhide H3)).mono ?_
        rintro e w2 ⟨rfl, hr2, ha2⟩
        have R2 := (unhide HR).adv hb ha2 hr2
        obtain ⟨s0, s1, sf0, sf1, t0, t1, tf1⟩ := R2.cells
        have HR2 := hide R2
        clear R2 r0 r1 rf0 rf1 g0 g1 gf1 ha2
        go_wp2_with fail
        refine bodyPost_ret (v := .tuple #[.agg #[.int .i64 0, .slice none 0 0], .bool false]) (by simp [results, Tryd.results16, go_sem, s0, s1]) rfl ⟨_, _, _, _, rfl, ?_, ?_, ?_⟩
        · intro es' h
          cases h
        · rw [← unhide HP2]
          exact Rd.other (Rd.other hr2 (Nat.ne_of_lt hb)) (Nat.ne_of_lt hb)
        · exact (unhide HR2).nb.ofBelow (((Below.refl _ _).setCell (p := ⟨w.heap.size, 0, none⟩) (Nat.le_refl _) _).setCell (p := ⟨w.heap.size, 1, none⟩) (Nat.le_refl _) _)
      | some ed =>
        obtain ⟨x, y⟩ := ed
        have e1 := Pl.edges_go (n := m - k - 1) h3
        rw [← hmk] at e1
        have hxy := Pl.pair_val h3
        have hp := unhide HP
        have hq := unhide HQ
        rw [e1, List.drop_drop] at hp hq
        rw [show m - k - 1 = m - (k + 1) by omega] at hp hq
        have HP2 := hide hp
        have HQ2 := hide hq
        clear e1 hmk h3 hp hq
        go_wp2_with fail
        refine (pair_yes _ b s j c3 x y hrd hs hj (unhide H3)).mono ?_
        rintro e w2 ⟨rfl, hr2, ha2⟩
        have R2 := (unhide HR).adv hb ha2 hr2
        obtain ⟨s0, s1, sf0, sf1, t0, t1, tf1⟩ := R2.cells
        have hsz2 := R2.sz
        have HR2 := hide R2
        have HOWN := hide R2.own
        clear R2 r0 r1 rf0 rf1 g0 g1 gf1 ha2
        go_wp2_with (at_builtin; refine wpList_append_own _ rfl (.tmp 35) (.tmp 39) 22 rfl (w.heap.size + 2) 38 i0 (.agg #[.int .i64 0, .int .i64 0]) 2 16 Tryd.underlying22 (unhide HI) (unhide HZ0) (unhide HZ1) (unhide HZ2) rfl (by decide) v' k (ecells es) rfl ((unhide HOWN).alloc _) ⟨w2.heap.size, 0, none⟩ 1 1 [.int .i64 x, .int .i64 y] rfl rfl ?c1 ?c2 ?c3 ?c4 ?c5 ?_)
        case c1 => exact cell_two_new _ _ _ _
        case c2 => intro u hu; simp at hu; rcases hu with rfl | rfl <;> rfl
        case c3 => unfold maxLen; omega
        case c4 => omega
        case c5 => simp; omega
        intro v2 w4 hown4 hg4 _
        obtain ⟨g2, cap2, hv2, _, _⟩ := hown4.form (by omega)
        subst hv2
        have R4 := (unhide HR2).step hb hg4 hown4
        have hbk4 : w4.heap[w.heap.size + 1]? = w2.heap[w.heap.size + 1]? := by
          rw [hg4.block _ (by simp; omega) (fun he => by have := ((unhide HOWN).lt _ he.symm).1; omega)]
          exact Below.heap_alloc _ _ _ (by omega)
        have x1 : w4.cell? ⟨w.heap.size + 1, 1, none⟩ = some v' := by rw [World.cell?_of_block (w := w2) hbk4]; exact t1
        have xf1 : w4.frozen? ⟨w.heap.size + 1, 1, none⟩ = false := by rw [World.frozen?_of_block (w := w2) hbk4]; exact tf1
        have HR4 := hide R4
        clear R4 hbk4 hg4 hown4 s0 s1 sf0 sf1 t0 t1 tf1
        go_wp2_with fail
        go_roundw
        case rel =>
          refine ⟨k + 1, j + c3, es ++ [(x, y)], _, by go_num, by omega, by omega, unhide HR4, by have := unhide HP2; omega, ?_⟩
          rw [← unhide HQ2, Option.map_map]
          congr 1
          funext l
          simp
        case measure => simp [intOf]; omega
    · obtain rfl : k = m := by omega
      have hp := unhide HP
      have hq := unhide HQ
      rw [Nat.sub_self] at hp hq
      simp only [Pl.edges, Nat.add_zero, Option.map_some, List.append_nil] at hp hq
      subst hq
      have HJ := hide hp
      clear HP HQ hp
      obtain ⟨av, capv, hv', hes⟩ := es_of_owns (unhide HR).own (unhide HR).len (by omega)
      subst hv'
      have HES := hide hes
      clear hes
      by_cases hend : j < s.size
      · go_wp2_with fail
        go_region_with (go_at_call 24; refine (ended_no _ b s j ?_ hs hend).mono ?_; exact hrd; rintro e w' ⟨rfl, n, rfl⟩)
        all_goals go_wp2
        all_goals refine bodyPost_ret (v := .tuple #[.agg #[.int .i64 V, .slice av k capv], .bool false]) (by simp [results, Tryd.results16, go_sem, r0, r1]) rfl ⟨_, _, _, _, rfl_ending (by rw [← unhide HJ]; simp; omega), ?_, ?_, ?_⟩
        all_goals first | exact graph_es hb (unhide HR) hmv.2 | exact graph_rd hb (unhide HR) (unhide HJ) hmv.2 | exact graph_nb hb (unhide HR) hmv.2
      · go_wp2_with fail
        go_region_with (go_at_call 24; refine (ended_yes _ b s j ?_ hs hend hj).mono ?_; exact hrd; rintro e w' ⟨rfl, n, rfl⟩)
        all_goals go_wp2
        all_goals refine bodyPost_ret (v := .tuple #[.agg #[.int .i64 V, .slice av k capv], .bool true]) (by simp [results, Tryd.results16, go_sem, r0, r1]) rfl ⟨_, _, _, _, rfl_ending (by rw [← unhide HJ]; simp; omega), ?_, ?_, ?_⟩
        all_goals first | exact graph_es hb (unhide HR) hmv.2 | exact graph_rd hb (unhide HR) (unhide HJ) hmv.2 | exact graph_nb hb (unhide HR) hmv.2

/-- The contract, whatever the text. -/
theorem graph_any (w : World) (b : Nat) (s : ByteArray) (h : Rd w b s 0) (hb : b < w.heap.size) (hs : s.size ≤ maxLen) (c : Nat) (r : Option (Nat × List (Nat × Nat))) (hn : Pl.graph s.data.toList = (c, r)) :
    Calls Tryd.prog 16 #[.pointer (some ⟨b, 0, none⟩)] w fun e w' => ∃ (q : Int) (a : Option Addr) (n cap : Nat), e = .returned (.tuple #[.agg #[.int .i64 q, .slice a n cap], .bool r.isSome]) ∧
      (∀ V es, r = some (V, es) → q = V ∧ n = es.length ∧ Es (w.heap.size + 2) w' a n (toI es)) ∧ Rd w' b s c ∧ Nb b w.heap.size w w' := by
  have hlen : s.data.toList.length = s.size := by rw [Array.length_toList]; rfl
  unfold Pl.graph at hn
  split at hn
  · rename_i c1 h1
    simp only [Prod.mk.injEq] at hn
    obtain ⟨rfl, rfl⟩ := hn
    refine (graph_none1 w b s 0 c1 h hb hs (Nat.zero_le _) h1).mono ?_
    rintro e w' ⟨rfl, hr, ha⟩
    exact ⟨_, _, _, _, rfl, fun V es h => (by cases h), by simpa using hr, ha⟩
  · rename_i c1 V m h1
    split at hn
    · rename_i c2 h2
      simp only [Prod.mk.injEq] at hn
      obtain ⟨rfl, rfl⟩ := hn
      refine (graph_loop w b s 0 c1 V m h hb hs (Nat.zero_le _) h1 c2 none (by rw [Nat.zero_add]; exact h2)).mono ?_
      rintro e w' ⟨q, a, n, cap, rfl, _, hr, ha⟩
      exact ⟨_, _, _, _, rfl, fun V es h => (by cases h), by simpa using hr, ha⟩
    · rename_i c2 es h2
      simp only [Prod.mk.injEq] at hn
      obtain ⟨rfl, rfl⟩ := hn
      refine (graph_loop w b s 0 c1 V m h hb hs (Nat.zero_le _) h1 c2 (some es) (by rw [Nat.zero_add]; exact h2)).mono ?_
      rintro e w' ⟨q, a, n, cap, rfl, hes, hr, ha⟩
      rw [Nat.zero_add] at hr
      refine ⟨q, a, n, cap, ?_, ?_, hr, ha⟩
      · rw [Nat.zero_add, hlen]
        by_cases hc : s.size = c1 + c2
        · simp [hc]
        · rw [if_neg hc]
          simp [Ne.symm hc]
      · intro V' es' hv
        split at hv
        · cases hv
          exact hes es rfl
        · cases hv
end Go.Proofs.YtdcfhdpbpfgohaaDoor

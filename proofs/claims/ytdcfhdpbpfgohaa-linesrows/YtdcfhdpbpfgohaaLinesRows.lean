/-
  For every row of numbers the statement LinesRows answers true, and its argument reads as it read before. Conditions: none (the statement's own row).
-/
import Derived.Test.YtdcfhdpbpfgohaaLinesNumbers
import Derived.Test.YtdcfhdpbpfgohaaInt
import Derived.Below
namespace Go.Proofs.Ytdcfhdpbpfgohaa.linesRows
open Go.ChangeShapes Go.WideShapes Go.ChangeAt Go.RowKit
open Go.ChangeMaps (open_string shut_string)
set_option linter.unusedVariables false

theorem own : ownKnob Try.prog.godebug = none := by kernel_rfl
theorem laidOut : laidOutB Try.prog = true := by kernel_rfl

theorem and_mask (n : Int) : bits .and .i64 n 1048575 = n % 1048576 := by
  have hm : (BitVec.ofInt 64 1048575).toNat = 2 ^ 20 - 1 := by decide
  have key : (BitVec.ofInt 64 n &&& BitVec.ofInt 64 1048575).toNat = (n % ((2 ^ 64 : Nat) : Int)).toNat % 2 ^ 20 := by
    rw [BitVec.toNat_and, BitVec.toNat_ofInt, hm, Nat.and_two_pow_sub_one_eq_mod]
  show IntKind.i64.wrap ((BitVec.ofInt 64 n &&& BitVec.ofInt 64 1048575).toNat : Nat) = n % 1048576
  rw [key, IntKind.wrap_i64]
  omega

/-- what a number of the argument becomes -/
def norm (x : Int) : Nat := ((x % 1048576) % 1000000).toNat
theorem norm_le (x : Int) : norm x ≤ 999999 := by unfold norm; omega
theorem norm_eq (x : Int) : ((norm x : Nat) : Int) = x % 1048576 % 1000000 := by unfold norm; omega

theorem s_append (a b : ByteArray) : (a ++ b).data.toList = a.data.toList ++ b.data.toList := by simp
theorem s_size_append (a b : ByteArray) : (a ++ b).size = a.size + b.size := by
  rw [← size_list, s_append, List.length_append, size_list, size_list]

/-- what holds at a round's head -/
structure LRel (w wr : World) (ys : List Nat) (k : Nat) (s : ByteArray) (v : Value) : Prop where
  bel : Below w.heap.size w wr
  own : wr.ownsRow w.heap.size 3 1 v k (icells (ys.take k))
  txt : s.data.toList = Pl.row (ys.take k)

theorem take_snoc {ys : List Nat} {k : Nat} (h : k < ys.length) : ys.take (k + 1) = ys.take k ++ [ys.getD k 0] := by
  rw [List.take_succ_eq_append_getElem h]
  simp [h]
theorem LRel.step {w wr w4 : World} {ys : List Nat} {k y : Nat} {s : ByteArray} {v v2 : Value} (h : LRel w wr ys k s v) (hk : k < ys.length) (hy : ys.getD k 0 = y)
    (hg : (wr.alloc (.cells #[.int .i64 y] 3)).grownBy w4 v.ownBlock) (ho : w4.ownsRow w.heap.size 3 1 v2 (k + 1) (icells (ys.take k) ++ [.int .i64 y])) (s' : ByteArray)
    (hs : s'.data.toList = if k = 0 then Pl.dec y else s.data.toList ++ 32 :: Pl.dec y) :
    LRel w w4 ys (k + 1) s' v2 := by
  have hsz := h.bel.size
  refine ⟨((h.bel.alloc hsz _).grown hg (by simp; omega) fun j hj => (h.own.lt j hj).1), ?_, ?_⟩
  · rw [take_snoc hk, hy]
    simpa [icells] using ho
  · rw [take_snoc hk, hy, Pl.row_snoc, hs, h.txt]
    have e : (ys.take k = []) ↔ k = 0 := by
      rw [List.take_eq_nil_iff]
      constructor
      · rintro (h1 | h1)
        · exact h1
        · subst h1; simp at hk
      · exact fun h1 => .inl h1
    simp only [e]
theorem LRel.len {w wr : World} {ys : List Nat} {k : Nat} {s : ByteArray} {v : Value} (h : LRel w wr ys k s v) (hk : k ≤ 60) (hx : ∀ x ∈ ys, x ≤ 999999) : s.size ≤ 420 := by
  rw [← size_list, h.txt]
  have := Pl.row_len (ys.take k) (fun x hx' => hx x (List.mem_of_mem_take hx'))
  rw [List.length_take] at this
  omega

theorem int_at (w : World) (n : Nat) (hn : n ≤ 999999) :
    Calls Try.prog 13 #[.int .i64 n] w fun e w' => ∃ d : ByteArray, e = .returned (.string d) ∧ d.data.toList = Pl.dec n ∧ d.size ≤ 6 ∧ w' = w := by
  refine (int_any w n hn).mono ?_
  rintro e w' ⟨rfl, rfl⟩
  refine ⟨_, rfl, by simp, ?_, rfl⟩
  have := (Pl.dec_len hn).1
  rw [← size_list]
  simpa using this

set_option maxHeartbeats 2000000 in
theorem walk_big (a : Option Addr) (n cap : Nat) (w : World) (hn : 60 < n) :
    Calls Try.prog 5 #[.slice a n cap] w fun e w' => e = .returned (.bool true) ∧ Below w.heap.size w w' := by
  go_enter Try.func5, Try.ntmps5
  go_wp2_with fail
  refine (speaks_any _).mono ?_
  rintro e w1 ⟨rfl, hb1⟩
  have HB := hide hb1
  clear hb1
  go_wp2_with fail
  go_ret
  exact ⟨rfl, unhide HB⟩

set_option maxHeartbeats 2000000 in
theorem walk_small (a : Option Addr) (cap : Nat) (zs : List Int) (ys : List Nat) (w : World) (hys : zs.map norm = ys) (hN : Ns w a ys.length zs) (hn : ys.length ≤ 60) :
    Calls Try.prog 5 #[.slice a ys.length cap] w fun e w' => e = .returned (.bool true) ∧ Below w.heap.size w w' := by
  obtain ⟨i0, hi0, hz0, hz1, hz2⟩ := info_parts info3
  have HI := hide hi0
  have HZ0 := hide hz0
  have HZ1 := hide hz1
  have HZ2 := hide hz2
  have HNS := hide hN
  have hxs : ∀ x ∈ ys, x ≤ 999999 := by rw [← hys]; intro x hx; obtain ⟨y, _, rfl⟩ := List.mem_map.1 hx; exact norm_le y
  have hyk : ∀ k, k < ys.length → ys.getD k 0 = norm (zs.getD k 0) := by
    intro k hk
    have hk2 : k < zs.length := by rw [← hys, List.length_map] at hk; exact hk
    rw [← hys]
    simp [hk2]
  have HXS := hide hxs
  have HYK := hide hyk
  clear hi0 hz0 hz1 hz2 hN hys hxs hyk
  have hmask := and_mask
  have hdn : decide ((60 : Int) < (ys.length : Int)) = false := decide_eq_false (by omega)
  go_enter Try.func5, Try.ntmps5
  go_wp2_with fail
  refine (speaks_any _).mono ?_
  rintro e w1 ⟨rfl, hb1⟩
  have HB := hide hb1
  have HN1 := hide ((unhide HNS).below hb1)
  clear hb1
  go_wp2_with fail
  go_loopw [3, 4, 21] (fun t v i wr => ∃ (k : Nat) (s : ByteArray), t = .string s ∧ i = .int .i64 k ∧ k ≤ ys.length ∧ LRel w1 wr ys k s v) (fun t v i wr => ys.length - (intOf i).toNat)
  case atStart => exact ⟨0, ⟨#[]⟩, rfl, rfl, by omega, (Below.refl _ _).alloc (Nat.le_refl _) _, World.ownsRow_lit w1 #[] 0 (Nat.le_refl _) (by unfold maxLen; omega) (by simp), rfl⟩
  case round =>
    obtain ⟨k, s, rfl, rfl, hk, hR⟩ := hrel
    have HR := hide hR
    have HT := hide hR.txt
    have hss := hR.len (by omega) (unhide HXS)
    have hbs := hR.bel.size
    have HOWN := hide hR.own
    by_cases hlt : k < ys.length
    · obtain ⟨g, off, ha, hg, d0⟩ := ((unhide HN1).below hR.bel).2.2 k hlt
      subst ha
      have hyy := unhide HYK k hlt
      obtain ⟨x, hx⟩ : ∃ x, zs.getD k 0 = x := ⟨_, rfl⟩
      rw [hx] at hyy d0
      obtain ⟨y, hy⟩ : ∃ y, norm x = y := ⟨_, rfl⟩
      have hneq := (norm_eq x).symm
      have hyl := norm_le x
      rw [hy] at hneq hyl hyy
      have HE := hide hneq
      have HY := hide hyy
      clear hneq hyy hx hy hR
      by_cases hk0 : 0 < k
      · go_wp2_with fail
        rw [unhide HE]
        refine (int_at _ y hyl).mono ?_
        rintro e w2 ⟨d, rfl, hdt, hds, rfl⟩
        have HD := hide hdt
        clear hdt
        go_wp2_with (at_builtin; refine wpList_append_own _ rfl (.tmp 37) (.tmp 39) 28 rfl w1.heap.size 3 i0 (.int .i64 0) 1 8 Try.underlying28 (unhide HI) (unhide HZ0) (unhide HZ1) (unhide HZ2) rfl (by decide) u4 k (icells (ys.take k)) rfl ((unhide HOWN).alloc _) ⟨w2.heap.size, 0, none⟩ 1 1 [.int .i64 y] rfl rfl (cell_one_new _ _ _) ?c2 ?c3 ?c4 ?c5 ?_)
        case c2 => first | rfl | (intro u hu; simp at hu; subst hu; rfl)
        case c3 => unfold maxLen; omega
        case c4 => omega
        case c5 => first | omega | (simp; omega)
        intro v2 w4 hown4 hg4 _
        have HS := hide ((unhide HR).step hlt (unhide HY) hg4 hown4)
        clear hown4 hg4
        go_wp2_with fail
        go_roundw
        case rel => exact ⟨k + 1, _, rfl, by go_num, by omega, unhide HS _ (by rw [if_neg (Nat.ne_of_gt hk0), s_append, s_append, unhide HD]; simp)⟩
        case measure => simp [intOf]; omega
      · have hk1 : k = 0 := by omega
        have HK := hide hk1
        clear hk1
        go_wp2_with fail
        rw [unhide HE]
        refine (int_at _ y hyl).mono ?_
        rintro e w2 ⟨d, rfl, hdt, hds, rfl⟩
        have HD := hide hdt
        clear hdt
        go_wp2_with (at_builtin; refine wpList_append_own _ rfl (.tmp 37) (.tmp 39) 28 rfl w1.heap.size 3 i0 (.int .i64 0) 1 8 Try.underlying28 (unhide HI) (unhide HZ0) (unhide HZ1) (unhide HZ2) rfl (by decide) u4 k (icells (ys.take k)) rfl ((unhide HOWN).alloc _) ⟨w2.heap.size, 0, none⟩ 1 1 [.int .i64 y] rfl rfl (cell_one_new _ _ _) ?c2 ?c3 ?c4 ?c5 ?_)
        case c2 => first | rfl | (intro u hu; simp at hu; subst hu; rfl)
        case c3 => unfold maxLen; omega
        case c4 => omega
        case c5 => first | omega | (simp; omega)
        intro v2 w4 hown4 hg4 _
        have HS := hide ((unhide HR).step hlt (unhide HY) hg4 hown4)
        clear hown4 hg4
        go_wp2_with fail
        go_roundw
        case rel => exact ⟨k + 1, _, rfl, by go_num, by omega, unhide HS _ (by rw [if_pos (unhide HK), s_append, unhide HD, unhide HT, unhide HK]; rfl)⟩
        case measure => simp [intOf]; omega
    · obtain rfl : k = ys.length := by omega
      have htx := hR.txt
      have ho := hR.own
      rw [List.take_length] at htx ho
      have n1 := Pl.numbers_row ys (unhide HXS)
      have n2 := Pl.numbers_more ys (unhide HXS)
      have n3 := Pl.numbers_ahead s.data.toList
      rw [← htx] at n1 n2
      obtain ⟨xv, cv, hv, hnv⟩ := ns_of_owns ho (by omega)
      have N1 := hide n1
      have N2 := hide n2
      have N3 := hide n3
      have HV := hide hnv
      subst hv
      clear n1 n2 n3 hnv ho htx hR
      go_wp2_with fail
      refine (linesNumbers.numbers_any _ s (by omega) _ (unhide N1)).mono ?_
      rintro e w2 ⟨⟨v1, rfl, ho1⟩, hb2⟩
      rw [Option.getD_some] at ho1
      obtain ⟨x1, c1, hv1, hn1⟩ := ns_of_owns ho1 (by omega)
      subst hv1
      have HN1 := hide hn1
      have HV2 := hide ((unhide HV).below hb2)
      have HB2 := hide (((unhide HB).trans ((unhide HR).bel.mono (unhide HB).size)).trans (hb2.mono (Nat.le_trans (unhide HB).size hbs)))
      have hbs2 := hb2.size
      clear hb2 hn1 ho1
      go_wp2_with fail
      refine (linesNumbers.numbers_any _ _ ?_ none ?_).mono ?_
      · rw [s_size_append]; show s.size + 1 ≤ _; omega
      · rw [s_append]; exact unhide N2
      rintro e w3 ⟨⟨v2, rfl, ho2⟩, hb3⟩
      have HN1b := hide ((unhide HN1).below hb3)
      have HV3 := hide ((unhide HV2).below hb3)
      have HB3 := hide ((unhide HB2).trans (hb3.mono (Nat.le_trans (unhide HB).size (Nat.le_trans hbs hbs2))))
      have hbs3 := hb3.size
      clear hb3 ho2
      go_wp2_with fail
      refine (linesNumbers.numbers_any _ _ ?_ none ?_).mono ?_
      · rw [s_size_append]; show 1 + s.size ≤ _; omega
      · rw [s_append]; exact unhide N3
      rintro e w4 ⟨⟨v3, rfl, ho3⟩, hb4⟩
      have HN1c := hide ((unhide HN1b).below hb4)
      have HV4 := hide ((unhide HV3).below hb4)
      have HB4 := hide ((unhide HB3).trans (hb4.mono (Nat.le_trans (unhide HB).size (Nat.le_trans hbs (Nat.le_trans hbs2 hbs3)))))
      clear hb4 ho3
      go_wp2_with fail
      refine (same_yes _ x1 xv _ c1 cv _ (unhide HN1c) (unhide HV4)).mono ?_
      rintro e w5 ⟨rfl, m, rfl⟩
      go_wp2_with fail
      go_ret
      exact ⟨rfl, below_draws (unhide HB4) m⟩

theorem ns_of_row {w : World} {a : Option Addr} {n cap : Nat} {zs : List Int} (h : (a = none ∧ n = 0 ∧ cap = 0 ∧ zs = []) ∨
    ∃ x, a = some x ∧ n ≤ cap ∧ cap ≤ maxLen ∧ zs.length = cap ∧ (∀ i, i < zs.length → w.cell? (x.add i) = some (.int .i64 (zs.getD i 0)))) (hn : n ≤ 60) : Ns w a n (zs.take n) := by
  rcases h with ⟨rfl, rfl, rfl, rfl⟩ | ⟨x, rfl, h1, h2, h3, h4⟩
  · exact ⟨rfl, by omega, fun k hk => by omega⟩
  · refine ⟨by rw [List.length_take]; omega, by omega, fun k hk => ?_⟩
    have hc := h4 k (by omega)
    obtain ⟨b, off, spot⟩ := x
    have hspot : spot = none := by simpa [Addr.add] using World.cell?_spot (h4 0 (by omega))
    subst hspot
    rw [Addr.add_lit] at hc
    refine ⟨b, off, rfl, World.block_lt_of_cell? w _ hc, ?_⟩
    rw [hc]
    simp [hk]

/-- WHAT THE WALK IS TOLD OF THE ARGUMENT: nil, or a row of cells. -/
def IsRow (k : IntKind) (w : World) (a : Option Addr) (len cap : Nat) (zs : List Int) : Prop :=
  (a = none ∧ len = 0 ∧ cap = 0 ∧ zs = []) ∨
  ∃ x, a = some x ∧ len ≤ cap ∧ cap ≤ maxLen ∧ zs.length = cap ∧ (∀ i, i < zs.length → w.cell? (x.add i) = some (.int k (zs.getD i 0))) ∧ ∀ n ∈ zs, (Lit.int k n).wf = true

theorem walk (a0 : Option Addr) (len0 cap0 : Nat) (z0 : List Int) (w : World) (w0 : IsRow .i64 w a0 len0 cap0 z0) :
    Calls Try.prog 5 #[.slice a0 len0 cap0] w fun e w' => e = .returned (.bool true) ∧ Below w.heap.size w w' := by
  by_cases hn : 60 < len0
  · exact walk_big a0 len0 cap0 w hn
  · have hN : Ns w a0 len0 (z0.take len0) := ns_of_row (by
      rcases w0 with h | ⟨x, h1, h2, h3, h4, h5, _⟩
      · exact .inl h
      · exact .inr ⟨x, h1, h2, h3, h4, h5⟩) (by omega)
    have hl : ((z0.take len0).map norm).length = len0 := by rw [List.length_map]; exact hN.1
    have := walk_small a0 cap0 (z0.take len0) ((z0.take len0).map norm) w rfl (by rw [hl]; exact hN) (by omega)
    rw [hl] at this
    exact this

set_option maxRecDepth 100000 in
theorem lifted (os : Os) (started : os.Started) (H : Type) (enc : TypeId × Value → H) :
    ReturnsInHanded {} Try.checked os 5 .any (Rows.linesRowsSpec.pre6 enc Try.prog Try.f5 Rows.linesRowsRow.domain false) (Rows.linesRowsSpec.post enc Try.prog Try.f5 false true false false) := by
  refine returnsInHanded_of_change (C := Try.checked) own started (by kernel_rfl) Try.func5
    (ChangeSpec.witness6 (enc := enc) (C := Try.checked) false ⟨#[], #[.slice none 0 0], []⟩ 8 (by kernel_rfl) (by kernel_rfl) (by kernel_rfl) (by kernel_rfl)) ?_
  intro W base args ds gs before hval0 hW hcnd _
  have hval : ∀ (j : Nat) t v, Try.f5.params[j]? = some t → args[j]? = some v → Value.okWide Try.prog W .any base t v := hval0
  have hW' := hW
  obtain ⟨p, q, hA0, hV, rfl, hfz, hnd⟩ := hW
  have hA : DataW.TrodAll enc Try.prog W 0 (fun _ => true) true Try.f5.params.toList args.toList ds p := hA0
  rw [Try.params5] at hA hval
  obtain ⟨v0, vs0, d0, ds0, p0, q0, hargs, rfl, rfl, h0, r0⟩ := trodAll_cons hA
  obtain ⟨rfl, rfl, rfl⟩ := trodAll_nil r0
  obtain rfl : args = #[v0] := by cases args; simp_all
  obtain ⟨rfl, rfl⟩ := trodVars_none hV
  obtain ⟨a0, len0, cap0, rfl⟩ := okWide_slice Try.underlying28 (hval 0 28 v0 rfl rfl)
  have k0 := h0
  have lt0 : ∀ x ∈ p0, x.block < W.heap.size := by obtain ⟨m, hm⟩ := k0; exact DataW.trod_lt m _ _ _ hm
  obtain ⟨z0, w0⟩ : ∃ zs, IsRow .i64 W a0 len0 cap0 zs := by
    obtain ⟨fuel, hf⟩ := h0
    rcases open_ints Try.underlying28 Try.underlying3 (by kernel_rfl) hf with ⟨hcs, _⟩ | ⟨x, l, c, zs, hcs, _, hl, hm, hz, _, hcell, hwz⟩
    · simp [Value.cells] at hcs
      obtain ⟨rfl, rfl, rfl⟩ := hcs
      exact ⟨[], .inl ⟨rfl, rfl, rfl, rfl⟩⟩
    · simp [Value.cells] at hcs
      obtain ⟨rfl, rfl, rfl⟩ := hcs
      exact ⟨zs, .inr ⟨_, rfl, hl, hm, by simpa using hz, hcell, hwz⟩⟩
  clear hA0 hval0
  refine (walk a0 len0 cap0 z0 W w0).mono fun e W' ⟨he, bel⟩ => ?_
  subst he
  exact ⟨_, rfl, _, _, _, [], _, [], hW', trodAll_mk1 (shut_bool Try.underlying4 _), (trodAll_cons_mk (Below.trod laidOut (by kernel_rfl) (of_decide_eq_true (by kernel_rfl)) k0 bel lt0) trodAll_mk0), rfl, bel.frame _, fun h => by cases h⟩

theorem over : Rows.linesRowsRow.holds Try.pinned (OpenSpec.ofChange Rows.linesRowsSpec) :=
  OpenClaim.holds_of_wide 5 Try.f5 rfl rfl rfl rfl rfl rfl rfl ⟨rfl, rfl, rfl, rfl, rfl⟩ rfl rfl rfl rfl rfl (by kernel_rfl) Try.func5 (by kernel_rfl)
    (of_decide_eq_true (by kernel_rfl)) (by unfold Func.isWrapper; first | (rw [if_pos (by decide +kernel)]; kernel_rfl) | (rw [if_neg (by decide +kernel)]; exact ⟨rfl, rfl⟩))
    (fun os started H enc _ => lifted os started H enc)

theorem proved : Rows.LinesRowsSaid := over
#print axioms proved
end Go.Proofs.Ytdcfhdpbpfgohaa.linesRows

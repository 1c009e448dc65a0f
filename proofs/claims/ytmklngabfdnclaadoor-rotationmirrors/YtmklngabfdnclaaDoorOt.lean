/-
  The contracts of the program's other and along: the half edge that comes behind each along its face. Conditions: the lists lie in memory as told, and have numbers below H.
-/
import Derived.Test.YtmklngabfdnclaaDoorFp
namespace Go.Proofs.YtmklngabfdnclaaDoor
open Go.RowKit
set_option linter.unusedVariables false
set_option maxRecDepth 20000
/-- the other half edge -/
def oth (h : Nat) : Nat := if h % 2 = 0 then h + 1 else h - 1
theorem oth_oth (h : Nat) : oth (oth h) = h := by unfold oth; split <;> split <;> omega
theorem oth_lt {h n : Nat} (hh : h < 2 * n) : oth h < 2 * n := by unfold oth; split <;> omega
theorem xor_oth : ∀ h : Nat, h < 256 → bits .xor .i64 (h : Int) 1 = ((oth h : Nat) : Int) := by
  have key : ∀ h : Nat, h < 256 → h ^^^ 1 = oth h := by decide
  intro h hh
  show IntKind.i64.wrap ((BitVec.ofInt 64 (h : Int) ^^^ BitVec.ofInt 64 1).toNat : Nat) = _
  have h1 : (BitVec.ofInt 64 (h : Int)).toNat = h := by rw [BitVec.toNat_ofInt]; omega
  have h2 : (BitVec.ofInt 64 1).toNat = 1 := by decide
  have h3 : oth h < 256 := oth_lt (n := 128) hh
  rw [BitVec.toNat_xor, h1, h2, key h hh, IntKind.wrap_i64]
  omega
theorem other_any (w : World) (h : Nat) (hh : h < 256) : Calls Tryd.prog 31 #[.int .i64 (h : Nat)] w fun e w' => e = .returned (.int .i64 (oth h : Nat)) ∧ w' = w := by
  have hx := hide (xor_oth h hh)
  go_enter Tryd.func31, Tryd.ntmps31
  go_wp2_with fail
  go_ret
  exact ⟨ret_i (unhide hx), rfl⟩

theorem cell_set_ne {w : World} {p q : Addr} {v : Value} (h : p.block ≠ q.block) : (w.setCell q v).cell? p = w.cell? p := World.cell?_of_block (w := w) (Below.heap_setCell _ _ _ _ h)
/-- what comes behind what: N of the other half edge of a list's number is the next one in the list -/
def Behind (q : List (List Nat)) (N : Nat → Nat) : Prop := ∀ x, x < q.length → ∀ i, i < (q.getD x []).length → N (oth ((q.getD x []).getD i 0)) = (q.getD x []).getD ((i + 1) % (q.getD x []).length) 0
/-- up to the place i in the list x -/
def BehindTo (q : List (List Nat)) (N f : Nat → Nat) (x i : Nat) : Prop :=
  ∀ y, y < q.length → ∀ j, j < (q.getD y []).length → (y < x ∨ y = x ∧ j < i) → f (oth ((q.getD y []).getD j 0)) = N (oth ((q.getD y []).getD j 0))
def rowsI (q : List (List Nat)) : List (List Int) := q.map toIs
theorem rowsI_length (q : List (List Nat)) : (rowsI q).length = q.length := by simp [rowsI]
theorem rowsI_getD (q : List (List Nat)) (k : Nat) : (rowsI q).getD k [] = toIs (q.getD k []) := by
  simp only [rowsI, List.getD_eq_getElem?_getD, List.getElem?_map]
  cases q[k]? <;> simp [toIs]

set_option maxHeartbeats 4000000 in
theorem along_any (w : World) (a : Option Addr) (m cap H : Nat) (q : List (List Nat)) (h : Rr w a m (rowsI q)) (hH : H ≤ 256) (hlt : ∀ x, x < q.length → ∀ i, i < (q.getD x []).length → (q.getD x []).getD i 0 < H) (hev : ∀ j, j < H → oth j < H)
    (N : Nat → Nat) (hN : Behind q N) (hcov : ∀ j, j < H → ∃ x i, x < q.length ∧ i < (q.getD x []).length ∧ oth ((q.getD x []).getD i 0) = j) :
    Calls Tryd.prog 17 #[.slice a m cap, .int .i64 (H : Nat)] w fun e w' => (∃ g, e = .returned (.slice (some ⟨g, 0, none⟩) H H) ∧ w.heap.size ≤ g ∧ RowN w' g H N) ∧ Below w.heap.size w w' := by
  have hq : q.length = m := by have := h.1; rwa [rowsI_length] at this
  have hm := h.2.1
  have HR := hide h
  have HLT := hide hlt
  have HEV := hide hev
  have HN := hide hN
  have HC := hide hcov
  have HQ := hide hq
  clear h hlt hev hN hcov hq
  obtain ⟨i0, hi0, hz0, hz1, hz2⟩ := info_parts info3
  have HI := hide hi0
  have HZ0 := hide hz0
  have HZ1 := hide hz1
  have hzb : i0.bytes * H ≤ 281474976710656 := by rw [hz2]; omega
  clear hi0 hz0 hz1 hz2
  go_enter Tryd.func17, Tryd.ntmps17
  go_wp2_with (refine wpList_make_full _ rfl (.tmp 10) (.tmp 10) 36 rfl w.heap.size 3 i0 (.int .i64 0) 1 Tryd.underlying36 (unhide HI) (unhide HZ0) (unhide HZ1) .i64 .i64 _ _ H rfl rfl rfl rfl hzb ?m1 ?m2 ?_)
  case m1 => unfold maxLen; omega
  case m2 => simp
  intro w1 hown1 hg1
  rw [toList_madeCells_one] at hown1
  have HB1 := hide (show Below w.heap.size w w1 from ⟨hg1.os, hg1.tape, hg1.output, hg1.size, fun k hk => hg1.block k hk (by simp)⟩)
  have HR1 := hide (show RowN w1 w.heap.size H (fun t => 0) from (Row.of_owns hown1).congr fun t ht => by simp)
  have HT1 := hide (show BehindTo q N (fun t => 0) 0 0 from fun y hy j hj hh => by omega)
  clear hown1 hg1
  go_wp2_with fail
  go_loopw [14] (fun i wr => ∃ (x : Nat) (f : Nat → Nat), i = .int .i64 x ∧ x ≤ m ∧ Hid (RowN wr w.heap.size H f) ∧ Hid (BehindTo q N f x 0) ∧ Hid (Below w.heap.size w wr)) (fun i wr => m - (intOf i).toNat)
  case atStart => exact ⟨0, _, rfl, by omega, HR1, HT1, HB1⟩
  case round =>
    clear HR1 HT1 HB1
    obtain ⟨x, f, rfl, hx, HRow, HT, HB⟩ := hrel
    by_cases hxm : x < m
    · have hxm2 : (x : Int) < (m : Int) := by omega
      obtain ⟨gr, or, la, lc, ha, hgr, c0, hlc, hls⟩ := (unhide HR).2.2 x hxm
      subst ha
      rw [rowsI_getD, toIs_length] at c0 hls
      obtain ⟨l, hl⟩ : ∃ l, q.getD x [] = l := ⟨_, rfl⟩
      rw [hl] at c0 hls
      obtain ⟨len, hlen⟩ : ∃ len, l.length = len := ⟨_, rfl⟩
      rw [hlen] at c0 hls
      have HLEN := hide hlen
      have d0 : wr.cell? ⟨gr, or + x, none⟩ = some (.slice la len lc) := by rw [(unhide HB).cell (p := ⟨gr, or + x, none⟩) hgr]; exact c0
      have hgr2 : gr < wr.heap.size := Nat.lt_of_lt_of_le hgr (unhide HB).size
      have HL := hide hl
      have HLS := hide hls
      have hln := hls.2.1
      clear hls hlc hl c0 hlen
      go_wp2_with fail
      go_loopw [20] (fun i wr => ∃ (k : Nat) (f : Nat → Nat), i = .int .i64 k ∧ k ≤ len ∧ Hid (RowN wr w.heap.size H f) ∧ Hid (BehindTo q N f x k) ∧ Hid (Below w.heap.size w wr)) (fun i wr => len - (intOf i).toNat)
      case atStart => exact ⟨0, _, rfl, by omega, HRow, HT, HB⟩
      case round =>
        clear d0 hgr2 HRow HT HB
        obtain ⟨k, f2, rfl, hk, HRow2, HT3, HB2⟩ := hrel
        by_cases hkl : k < len
        · have hkl2 : (k : Int) < (len : Int) := by omega
          have hp : (k + 1) % len < len := Nat.mod_lt _ (by omega)
          obtain ⟨gl, ol, hla, hgl, c1⟩ := (unhide HLS).2.2 k hkl
          obtain ⟨gl', ol', hla', _, c2⟩ := (unhide HLS).2.2 _ hp
          subst hla
          simp only [Option.some.injEq, Addr.mk.injEq] at hla'
          obtain ⟨rfl, rfl, _⟩ := hla'
          rw [toIs_getD] at c1 c2
          obtain ⟨hh, hhe⟩ : ∃ hh, l.getD k 0 = hh := ⟨_, rfl⟩
          obtain ⟨y, hye⟩ : ∃ y, l.getD ((k + 1) % len) 0 = y := ⟨_, rfl⟩
          rw [hhe] at c1
          rw [hye] at c2
          have d1 : wr.cell? ⟨gl, ol + k, none⟩ = some (.int .i64 (hh : Nat)) := by rw [(unhide HB2).cell (p := ⟨gl, ol + k, none⟩) hgl]; exact c1
          have d2 : wr.cell? ⟨gl, ol + (k + 1) % len, none⟩ = some (.int .i64 (y : Nat)) := by rw [(unhide HB2).cell (p := ⟨gl, ol + (k + 1) % len, none⟩) hgl]; exact c2
          have hhH : hh < H := by have := unhide HLT x (by rw [unhide HQ]; exact hxm) k (by rw [unhide HL, unhide HLEN]; exact hkl); rw [unhide HL, hhe] at this; exact this
          have hoH := unhide HEV hh hhH
          have r0 := (unhide HRow2).cell hoH
          have r1 := (unhide HRow2).fz (oth hh)
          have hNy : N (oth hh) = y := by have := unhide HN x (by rw [unhide HQ]; exact hxm) k (by rw [unhide HL, unhide HLEN]; exact hkl); rw [unhide HL, unhide HLEN, hhe, hye] at this; exact this
          have HNY := hide hNy
          have HHE := hide hhe
          have HO := hide (fun (u : World) => other_any u hh (by omega))
          have hoH2 : ((oth hh : Nat) : Int) < (H : Int) := by omega
          have hne : ¬ gl = w.heap.size := by omega
          have hsz := (unhide HB2).size
          have hW : IntKind.i64.wrap ((k : Int) + 1) = (k : Int) + 1 := by rw [IntKind.wrap_i64]; omega
          have hT : ((k : Int) + 1).tmod (len : Int) = (((k + 1) % len : Nat) : Int) := by rw [show ((k : Int) + 1) = ((k + 1 : Nat) : Int) by omega, Int.ofNat_tmod]
          have hW2 : IntKind.i64.wrap (((k + 1) % len : Nat) : Int) = (((k + 1) % len : Nat) : Int) := by rw [IntKind.wrap_i64]; omega
          have hN0 : ¬ len = 0 := by omega
          have hN1 : ((len : Int) == 0) = false := by rw [beq_eq_false_iff_ne]; omega
          have hp2 : (((k + 1) % len : Nat) : Int) < (len : Int) := by omega
          have HTB := hide (show BehindTo q N (upd f2 (oth hh) y) x (k + 1) from fun y' hy' j hj hh' => by
            by_cases heq : oth ((q.getD y' []).getD j 0) = oth hh
            · rw [heq, upd_same, hNy]
            · rw [upd_other _ _ heq]
              refine unhide HT3 y' hy' j hj ?_
              rcases hh' with h1 | ⟨h1, h2⟩
              · exact .inl h1
              · refine .inr ⟨h1, ?_⟩
                rcases Nat.lt_or_ge j k with h3 | h3
                · exact h3
                · obtain rfl : j = k := by omega
                  subst h1
                  rw [unhide HL, hhe] at heq
                  exact absurd rfl heq)
          generalize (k + 1) % len = pp at *
          generalize oth hh = oo at *
          clear hNy hhe hye c1 c2 hhH hoH
          go_wp2_with fail
          go_region_held3 (fun u => u.cell? ⟨gl, ol + pp, none⟩ = some (.int .i64 (y : Nat))) (first | exact d2 | exact (cell_set_ne (p := ⟨gl, ol + pp, none⟩) (show gl ≠ w.heap.size from hne)).trans d2 | go_keep) ((go_at_call 31; refine (unhide HO _).mono ?_; rintro e w' ⟨rfl, rfl⟩))
          have HB4 := hide (((unhide HB2).setCell (p := ⟨w.heap.size, oo, none⟩) (Nat.le_refl _) (.int .i64 (y : Nat))).trans (below_refl_draws _ 1))
          have HRow4 := hide (show RowN (wr.setCell ⟨w.heap.size, oo, none⟩ (.int .i64 (y : Nat))).drew w.heap.size H (upd f2 oo y) from
            (Row.congr (Row.set (unhide HRow2) oo (.int .i64 (y : Nat))) fun t ht => by unfold upd; split <;> rfl).keep rfl)
          go_wp2_with fail
          go_roundw
          case rel => exact ⟨k + 1, _, by go_num, by omega, HRow4, HTB, HB4⟩
          case measure => simp [intOf]; omega
        · obtain rfl : k = len := by omega
          have HT5 := hide (show BehindTo q N f2 (x + 1) 0 from fun y hy j hj hh => unhide HT3 y hy j hj (by
            by_cases hyx : y = x
            · subst hyx
              right
              rw [unhide HL, unhide HLEN] at hj
              exact ⟨rfl, hj⟩
            · left; omega))
          go_wp2_with fail
          go_roundw
          case rel => exact ⟨x + 1, f2, by go_num, by omega, HRow2, HT5, HB2⟩
          case measure => simp [intOf]; omega
    · obtain rfl : x = m := by omega
      have HRF := hide (show RowN wr w.heap.size H N from Row.congr (unhide HRow) fun t ht => by
        obtain ⟨y, j, hy, hj, e⟩ := unhide HC t ht
        have := unhide HT y hy j hj (.inl (by rw [← unhide HQ]; exact hy))
        rw [e] at this
        simp only [this])
      go_wp2_with fail
      go_ret
      exact ⟨⟨_, rfl, Nat.le_refl _, unhide HRF⟩, unhide HB⟩
end Go.Proofs.YtmklngabfdnclaaDoor


/-
  For every bytes the statement LinesReads answers true, and its argument reads as it read before. Conditions: none (the statement's own row).
-/
import Derived.Test.YtdcfhdpbpfgohaaRows
import Derived.Test.YtdcfhdpbpfgohaaSpeaks
import Derived.Test.YtdcfhdpbpfgohaaReadAll
import Derived.Test.YtdcfhdpbpfgohaaSame
import Derived.WalkKit
import Derived.ProofKit
import Derived.OpenShut
import Derived.ShutString
import Derived.ChangeOld
import Derived.Below
import Derived.Laws.AppendOwnNone
namespace Go.Proofs.Ytdcfhdpbpfgohaa.linesReads
open Go.ChangeShapes Go.WideShapes Go.ChangeAt Go.RowKit
open Go.ChangeMaps (open_string shut_string)
set_option linter.unusedVariables false

theorem own : ownKnob Try.prog.godebug = none := by kernel_rfl
theorem laidOut : laidOutB Try.prog = true := by kernel_rfl
theorem info5 : (Try.prog.info? 5).map (fun i => (i.zero, i.size, i.bytes)) = some (some (.int .u8 0), 1, 1) := by kernel_rfl

def bcells (l : List UInt8) : List Value := l.map fun c => Value.int .u8 (c.toNat : Int)

theorem bs_of_owns {w : World} {base : Nat} {v : Value} {l : List UInt8} (h : w.ownsRow base 5 1 v l.length (bcells l)) :
    ∃ a cap, v = .slice a l.length cap ∧ Bs w a l.length l := by
  rcases h.2 with ⟨hv, h0⟩ | ⟨g, cap, cur, rfl, hb, hg, h1, h2, h3, h4⟩
  · exact ⟨none, 0, by rw [hv, h0], rfl, fun k hk => by omega⟩
  · refine ⟨_, cap, rfl, rfl, fun k hk => ⟨g, 0, rfl, (Array.getElem?_eq_some_iff.1 hg).1, ?_⟩⟩
    rw [Nat.zero_add, h.cellAt k (by omega)]
    simp [bcells, hk]

/-- WHAT THE WALK IS TOLD OF THE ARGUMENT: nil, or a row of cells. -/
def IsRow (k : IntKind) (w : World) (a : Option Addr) (len cap : Nat) (zs : List Int) : Prop :=
  (a = none ∧ len = 0 ∧ cap = 0 ∧ zs = []) ∨
  ∃ x, a = some x ∧ len ≤ cap ∧ cap ≤ maxLen ∧ zs.length = cap ∧ (∀ i, i < zs.length → w.cell? (x.add i) = some (.int k (zs.getD i 0))) ∧ ∀ n ∈ zs, (Lit.int k n).wf = true

/-- the argument's bytes -/
def bytesOf (zs : List Int) (n : Nat) : List UInt8 := (zs.take n).map fun z => UInt8.ofNat z.toNat
theorem bs_of_row {w : World} {a : Option Addr} {n cap : Nat} {zs : List Int} (h : IsRow .u8 w a n cap zs) : Bs w a n (bytesOf zs n) := by
  rcases h with ⟨rfl, rfl, rfl, rfl⟩ | ⟨x, rfl, h1, h2, h3, h4, h5⟩
  · exact ⟨rfl, fun k hk => by omega⟩
  · refine ⟨by simp [bytesOf]; omega, fun k hk => ?_⟩
    have hc := h4 k (by omega)
    obtain ⟨b, off, spot⟩ := x
    have hspot : spot = none := by simpa [Addr.add] using World.cell?_spot (h4 0 (by omega))
    subst hspot
    rw [Addr.add_lit] at hc
    refine ⟨b, off, rfl, World.block_lt_of_cell? w _ hc, ?_⟩
    have hk2 : k < zs.length := by omega
    have hz : zs.getD k 0 = zs[k] := by simp [hk2]
    have hwf := h5 zs[k] (List.getElem_mem hk2)
    have hb : 0 ≤ zs[k] ∧ zs[k] ≤ 255 := by simpa [Lit.wf, IntKind.min, IntKind.max, IntKind.signed, IntKind.bits] using hwf
    have he : (bytesOf zs n).getD k 0 = UInt8.ofNat zs[k].toNat := by simp [bytesOf, hk, hk2]
    rw [hc, hz, he]
    have : (UInt8.ofNat zs[k].toNat).toNat = zs[k].toNat := by rw [UInt8.toNat_ofNat']; omega
    rw [this]
    congr 2
    omega

set_option maxHeartbeats 2000000 in
theorem walk_big (a : Option Addr) (n cap : Nat) (w : World) (hn : 6000 < n) :
    Calls Try.prog 3 #[.slice a n cap] w fun e w' => e = .returned (.bool true) ∧ Below w.heap.size w w' := by
  go_enter Try.func3, Try.ntmps3
  go_wp2_with fail
  refine (speaks_any _).mono ?_
  rintro e w1 ⟨rfl, hb1⟩
  have HB := hide hb1
  clear hb1
  go_wp2_with fail
  go_ret
  exact ⟨rfl, unhide HB⟩

set_option maxHeartbeats 2000000 in
theorem walk_some (x : Addr) (n cap : Nat) (l : List UInt8) (w : World) (hB : Bs w (some x) n l) (hn : n ≤ 6000) :
    Calls Try.prog 3 #[.slice (some x) n cap] w fun e w' => e = .returned (.bool true) ∧ Below w.heap.size w w' := by
  obtain ⟨i0, hi0, hz0, hz1, hz2⟩ := info_parts info5
  have HI := hide hi0
  have HZ0 := hide hz0
  have HZ1 := hide hz1
  have HZ2 := hide hz2
  have hll := hB.1
  have HLL := hide hll
  have HBS := hide hB
  clear hi0 hz0 hz1 hz2 hB hll
  go_enter Try.func3, Try.ntmps3
  go_wp2_with fail
  refine (speaks_any _).mono ?_
  rintro e w1 ⟨rfl, hb1⟩
  have HB := hide hb1
  have HBS1 := hide ((unhide HBS).below hb1)
  clear hb1
  go_wp2_with (at_builtin; refine wpList_append_own _ rfl (.tmp 14) (.tmp 15) 22 rfl w1.heap.size 5 i0 (.int .u8 0) 1 1 Try.underlying22 (unhide HI) (unhide HZ0) (unhide HZ1) (unhide HZ2) rfl (by decide) (.slice (some ⟨w1.heap.size, 0, none⟩) 0 0) 0 [] rfl ?c0 x n cap (bcells l) rfl ?c1 ?c2 ?c3 ?c4 ?c5 ?c6 ?_)
  case c0 => exact World.ownsRow_lit w1 #[] 0 (Nat.le_refl _) (by unfold maxLen; omega) (by simp)
  case c1 => simp [bcells, unhide HLL]
  case c2 =>
    intro j u hj
    have hjl : j < l.length := by
      have := (List.getElem?_eq_some_iff.1 hj).1
      simpa [bcells] using this
    obtain ⟨g, off, ha, hg, hc⟩ := (unhide HBS1).2 j (by rw [← unhide HLL]; exact hjl)
    cases ha
    rw [Addr.add_lit, cell_old _ _ _ hg, hc]
    simp [bcells, hjl] at hj
    rw [← hj]
    simp [hjl]
  case c3 =>
    intro u hu
    obtain ⟨c, _, rfl⟩ := List.mem_map.1 hu
    rfl
  case c4 => unfold maxLen; omega
  case c5 => omega
  case c6 => simp
  intro v2 w2 hown2 hg2 _
  have hown3 : w2.ownsRow w1.heap.size 5 1 v2 l.length (bcells l) := by rw [unhide HLL]; exact hown2
  obtain ⟨a1, c1, hv2, hbs2⟩ := bs_of_owns hown3
  have hbel2 : Below w1.heap.size w1 w2 := ((Below.refl _ w1).alloc (Nat.le_refl _) _).grown hg2 (by simp) (fun k hk => by simp [Value.ownBlock] at hk; omega)
  subst hv2
  have HBS2 := hide hbs2
  have HBA := hide ((unhide HBS1).below hbel2)
  have HB2 := hide ((unhide HB).trans (hbel2.mono (unhide HB).size))
  clear hown2 hown3 hg2 hbs2 hbel2
  go_wp2_with fail
  refine (read_all _ a1 _ c1 l (unhide HBS2)).mono ?_
  rintro e w3 ⟨V, es, code, p, ae, ce, rfl, hE, hb3, hrr⟩
  have hbs3 := hb3.size
  have HE := hide hE
  have HRR := hide hrr
  have HB3 := hide ((unhide HB2).trans (hb3.mono (unhide HB2).size))
  have HBB := hide ((unhide HBA).below hb3)
  clear hE hb3 hrr
  go_wp2_with fail
  refine (refread_all _ (some x) n cap l (((unhide HBB).below ((Below.refl _ w3).alloc (Nat.le_refl _) _)).below ((Below.refl _ _).alloc (Nat.le_refl _) _))).mono ?_
  rintro e w4 ⟨V', es', code', p', ae', ce', rfl, hE', hb4, hrr'⟩
  rw [unhide HRR] at hrr'
  simp only [Prod.mk.injEq] at hrr'
  obtain ⟨rfl, rfl, rfl, rfl⟩ := hrr'
  have hz4 : w3.heap.size + 2 ≤ w4.heap.size := by have := hb4.size; simp at this; omega
  have gb : w4.heap[w3.heap.size]? = some (.cells #[.int .i64 V, .slice ae es.length ce] 26) := by
    rw [hb4.block _ (by simp; omega), Below.heap_alloc _ _ _ (by simp)]
    exact (MapKept.heap_alloc w3 _).1
  have fb : w4.heap[w3.heap.size + 1]? = some (.cells #[.int .i64 code, .int .i64 p, .slice none 0 0] 30) := by
    rw [hb4.block _ (by simp)]
    have := (MapKept.heap_alloc (w3.alloc (.cells #[.int .i64 V, .slice ae es.length ce] 26)) (.cells #[.int .i64 code, .int .i64 p, .slice none 0 0] 30)).1
    rw [World.size_alloc] at this
    exact this
  have g0 : w4.cell? ⟨w3.heap.size, 0, none⟩ = some (.int .i64 V) := by simp [World.cell?, gb]
  have g1 : w4.cell? ⟨w3.heap.size, 1, none⟩ = some (.slice ae es.length ce) := by simp [World.cell?, gb]
  have f0 : w4.cell? ⟨w3.heap.size + 1, 0, none⟩ = some (.int .i64 code) := by simp [World.cell?, fb]
  have f1 : w4.cell? ⟨w3.heap.size + 1, 1, none⟩ = some (.int .i64 p) := by simp [World.cell?, fb]
  have f2 : w4.cell? ⟨w3.heap.size + 1, 2, none⟩ = some (.slice none 0 0) := by simp [World.cell?, fb]
  have l0 : w3.heap.size < w4.heap.size := by omega
  have l1 : w3.heap.size + 1 < w4.heap.size := by omega
  have HEa := hide ((((unhide HE).below ((Below.refl _ w3).alloc (Nat.le_refl _) _)).below ((Below.refl _ _).alloc (Nat.le_refl _) _)).below hb4)
  have HEb := hide hE'
  have HB4 := hide ((((unhide HB3).alloc (unhide HB3).size (.cells #[.int .i64 V, .slice ae es.length ce] 26)).alloc (by have := (unhide HB3).size; simp; omega) (.cells #[.int .i64 code, .int .i64 p, .slice none 0 0] 30)).trans (hb4.mono (by have := (unhide HB3).size; simp; omega)))
  clear gb fb hE' hb4
  go_wp2_with fail
  refine (graph_same _ V ae ae' es.length ce ce' (toI es) ((unhide HEa).below ((Below.refl _ w4).alloc (Nat.le_refl _) _)) ((unhide HEb).below ((Below.refl _ w4).alloc (Nat.le_refl _) _))).mono ?_
  rintro e w5 ⟨rfl, hb5⟩
  have HB5 := hide (((unhide HB4).alloc (unhide HB4).size (.cells #[.int .i64 V, .slice ae' es.length ce'] 26)).trans (hb5.mono (by have := (unhide HB4).size; simp; omega)))
  clear hb5
  go_wp2_with fail
  go_ret
  exact ⟨rfl, unhide HB5⟩

set_option maxHeartbeats 2000000 in
theorem walk_nil (w : World) :
    Calls Try.prog 3 #[.slice none 0 0] w fun e w' => e = .returned (.bool true) ∧ Below w.heap.size w w' := by
  obtain ⟨i0, hi0, hz0, hz1, hz2⟩ := info_parts info5
  have HI := hide hi0
  obtain ⟨l, hl0⟩ : ∃ l : List UInt8, l = [] := ⟨_, rfl⟩
  have HL0 := hide hl0
  have hbs : ∀ w : World, Bs w none 0 l := by rw [hl0]; exact fun w => ⟨rfl, fun k hk => by omega⟩
  have HBS := hide hbs
  clear hi0 hz0 hz1 hz2 hl0 hbs
  go_enter Try.func3, Try.ntmps3
  go_wp2_with fail
  refine (speaks_any _).mono ?_
  rintro e w1 ⟨rfl, hb1⟩
  have HB := hide hb1
  clear hb1
  go_wp2_with (at_builtin; refine wpList_append_own_none rfl (.tmp 14) (.tmp 15) 22 rfl w1.heap.size 5 i0 1 Try.underlying22 (unhide HI) (.slice (some ⟨w1.heap.size, 0, none⟩) 0 0) 0 [] rfl ?c0 rfl ?_)
  case c0 => exact World.ownsRow_lit w1 #[] 0 (Nat.le_refl _) (by unfold maxLen; omega) (by simp)
  have HBS2 : Hid (Bs (w1.alloc (.cells #[] 5)) (some ⟨w1.heap.size, 0, none⟩) 0 l) := by rw [unhide HL0]; exact ⟨rfl, fun k hk => by omega⟩
  have HBA := hide (unhide HBS (w1.alloc (.cells #[] 5)))
  have HB2 := hide ((unhide HB).alloc (unhide HB).size (.cells #[] 5))
  go_wp2_with fail
  refine (read_all _ _ _ _ l (unhide HBS2)).mono ?_
  rintro e w3 ⟨V, es, code, p, ae, ce, rfl, hE, hb3, hrr⟩
  have hbs3 := hb3.size
  have HE := hide hE
  have HRR := hide hrr
  have HB3 := hide ((unhide HB2).trans (hb3.mono (unhide HB2).size))
  have HBB := hide ((unhide HBA).below hb3)
  clear hE hb3 hrr
  go_wp2_with fail
  refine (refread_all _ none 0 0 l (((unhide HBB).below ((Below.refl _ w3).alloc (Nat.le_refl _) _)).below ((Below.refl _ _).alloc (Nat.le_refl _) _))).mono ?_
  rintro e w4 ⟨V', es', code', p', ae', ce', rfl, hE', hb4, hrr'⟩
  rw [unhide HRR] at hrr'
  simp only [Prod.mk.injEq] at hrr'
  obtain ⟨rfl, rfl, rfl, rfl⟩ := hrr'
  have hz4 : w3.heap.size + 2 ≤ w4.heap.size := by have := hb4.size; simp at this; omega
  have gb : w4.heap[w3.heap.size]? = some (.cells #[.int .i64 V, .slice ae es.length ce] 26) := by
    rw [hb4.block _ (by simp; omega), Below.heap_alloc _ _ _ (by simp)]
    exact (MapKept.heap_alloc w3 _).1
  have fb : w4.heap[w3.heap.size + 1]? = some (.cells #[.int .i64 code, .int .i64 p, .slice none 0 0] 30) := by
    rw [hb4.block _ (by simp)]
    have := (MapKept.heap_alloc (w3.alloc (.cells #[.int .i64 V, .slice ae es.length ce] 26)) (.cells #[.int .i64 code, .int .i64 p, .slice none 0 0] 30)).1
    rw [World.size_alloc] at this
    exact this
  have g0 : w4.cell? ⟨w3.heap.size, 0, none⟩ = some (.int .i64 V) := by simp [World.cell?, gb]
  have g1 : w4.cell? ⟨w3.heap.size, 1, none⟩ = some (.slice ae es.length ce) := by simp [World.cell?, gb]
  have f0 : w4.cell? ⟨w3.heap.size + 1, 0, none⟩ = some (.int .i64 code) := by simp [World.cell?, fb]
  have f1 : w4.cell? ⟨w3.heap.size + 1, 1, none⟩ = some (.int .i64 p) := by simp [World.cell?, fb]
  have f2 : w4.cell? ⟨w3.heap.size + 1, 2, none⟩ = some (.slice none 0 0) := by simp [World.cell?, fb]
  have l0 : w3.heap.size < w4.heap.size := by omega
  have l1 : w3.heap.size + 1 < w4.heap.size := by omega
  have HEa := hide ((((unhide HE).below ((Below.refl _ w3).alloc (Nat.le_refl _) _)).below ((Below.refl _ _).alloc (Nat.le_refl _) _)).below hb4)
  have HEb := hide hE'
  have HB4 := hide ((((unhide HB3).alloc (unhide HB3).size (.cells #[.int .i64 V, .slice ae es.length ce] 26)).alloc (by have := (unhide HB3).size; simp; omega) (.cells #[.int .i64 code, .int .i64 p, .slice none 0 0] 30)).trans (hb4.mono (by have := (unhide HB3).size; simp; omega)))
  clear gb fb hE' hb4
  go_wp2_with fail
  refine (graph_same _ V ae ae' es.length ce ce' (toI es) ((unhide HEa).below ((Below.refl _ w4).alloc (Nat.le_refl _) _)) ((unhide HEb).below ((Below.refl _ w4).alloc (Nat.le_refl _) _))).mono ?_
  rintro e w5 ⟨rfl, hb5⟩
  have HB5 := hide (((unhide HB4).alloc (unhide HB4).size (.cells #[.int .i64 V, .slice ae' es.length ce'] 26)).trans (hb5.mono (by have := (unhide HB4).size; simp; omega)))
  clear hb5
  go_wp2_with fail
  go_ret
  exact ⟨rfl, unhide HB5⟩

theorem walk (a0 : Option Addr) (len0 cap0 : Nat) (z0 : List Int) (w : World) (w0 : IsRow .u8 w a0 len0 cap0 z0) :
    Calls Try.prog 3 #[.slice a0 len0 cap0] w fun e w' => e = .returned (.bool true) ∧ Below w.heap.size w w' := by
  by_cases hn : 6000 < len0
  · exact walk_big a0 len0 cap0 w hn
  · have hB := bs_of_row w0
    rcases w0 with ⟨rfl, rfl, rfl, rfl⟩ | ⟨x, rfl, _⟩
    · exact walk_nil w
    · exact walk_some x len0 cap0 _ w hB (by omega)

set_option maxRecDepth 100000 in
theorem lifted (os : Os) (started : os.Started) (H : Type) (enc : TypeId × Value → H) :
    ReturnsInHanded {} Try.checked os 3 .any (Rows.linesReadsSpec.pre6 enc Try.prog Try.f3 Rows.linesReadsRow.domain false) (Rows.linesReadsSpec.post enc Try.prog Try.f3 false true false false) := by
  refine returnsInHanded_of_change (C := Try.checked) own started (by kernel_rfl) Try.func3
    (ChangeSpec.witness6 (enc := enc) (C := Try.checked) false ⟨#[], #[.slice none 0 0], []⟩ 8 (by kernel_rfl) (by kernel_rfl) (by kernel_rfl) (by kernel_rfl)) ?_
  intro W base args ds gs before hval0 hW hcnd _
  have hval : ∀ (j : Nat) t v, Try.f3.params[j]? = some t → args[j]? = some v → Value.okWide Try.prog W .any base t v := hval0
  have hW' := hW
  obtain ⟨p, q, hA0, hV, rfl, hfz, hnd⟩ := hW
  have hA : DataW.TrodAll enc Try.prog W 0 (fun _ => true) true Try.f3.params.toList args.toList ds p := hA0
  rw [Try.params3] at hA hval
  obtain ⟨v0, vs0, d0, ds0, p0, q0, hargs, rfl, rfl, h0, r0⟩ := trodAll_cons hA
  obtain ⟨rfl, rfl, rfl⟩ := trodAll_nil r0
  obtain rfl : args = #[v0] := by cases args; simp_all
  obtain ⟨rfl, rfl⟩ := trodVars_none hV
  obtain ⟨a0, len0, cap0, rfl⟩ := okWide_slice Try.underlying22 (hval 0 22 v0 rfl rfl)
  have k0 := h0
  have lt0 : ∀ x ∈ p0, x.block < W.heap.size := by obtain ⟨m, hm⟩ := k0; exact DataW.trod_lt m _ _ _ hm
  obtain ⟨z0, w0⟩ : ∃ zs, IsRow .u8 W a0 len0 cap0 zs := by
    obtain ⟨fuel, hf⟩ := h0
    rcases open_ints Try.underlying22 Try.underlying5 (by kernel_rfl) hf with ⟨hcs, _⟩ | ⟨x, l, c, zs, hcs, _, hl, hm, hz, _, hcell, hwz⟩
    · simp [Value.cells] at hcs
      obtain ⟨rfl, rfl, rfl⟩ := hcs
      exact ⟨[], .inl ⟨rfl, rfl, rfl, rfl⟩⟩
    · simp [Value.cells] at hcs
      obtain ⟨rfl, rfl, rfl⟩ := hcs
      exact ⟨zs, .inr ⟨_, rfl, hl, hm, by simpa using hz, hcell, hwz⟩⟩
  clear hA0 hval0
  refine (walk a0 len0 cap0 z0 W w0).mono fun e W' ⟨he, bel⟩ => ?_
  subst he
  exact ⟨_, rfl, _, _, _, [], _, [], hW', trodAll_mk1 (shut_bool Try.underlying4 _), (trodAll_cons_mk (Below.trod laidOut (by kernel_rfl) (of_decide_eq_true (by kernel_rfl)) k0 bel lt0) trodAll_mk0), rfl, bel.frame _, fun h => by cases h⟩

theorem over : Rows.linesReadsRow.holds Try.pinned (OpenSpec.ofChange Rows.linesReadsSpec) :=
  OpenClaim.holds_of_wide 3 Try.f3 rfl rfl rfl rfl rfl rfl rfl ⟨rfl, rfl, rfl, rfl, rfl⟩ rfl rfl rfl rfl rfl (by kernel_rfl) Try.func3 (by kernel_rfl)
    (of_decide_eq_true (by kernel_rfl)) (by unfold Func.isWrapper; first | (rw [if_pos (by decide +kernel)]; kernel_rfl) | (rw [if_neg (by decide +kernel)]; exact ⟨rfl, rfl⟩))
    (fun os started H enc _ => lifted os started H enc)

theorem proved : Rows.LinesReadsSaid := over
#print axioms proved
end Go.Proofs.Ytdcfhdpbpfgohaa.linesReads

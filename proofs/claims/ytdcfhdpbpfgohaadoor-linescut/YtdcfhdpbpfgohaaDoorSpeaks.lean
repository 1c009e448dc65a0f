/-
  The statements' first call, speaks: it answers true. No conditions.
-/
import Derived.Test.YtdcfhdpbpfgohaaDoorRead
import Derived.Lib.SlBytesConst
namespace Go.Proofs.YtdcfhdpbpfgohaaDoor
open Go.RowKit
set_option linter.unusedVariables false

def exText : List UInt8 := [50, 32, 49, 10, 48, 32, 49, 10]
theorem ex_graph : Pl.graph exText = (8, some (2, [(0, 1)])) := by decide

theorem bs_new (w : World) (fz : Nat × Nat) : Bs (w.alloc (.cells #[.int .u8 50, .int .u8 32, .int .u8 49, .int .u8 10, .int .u8 48, .int .u8 32, .int .u8 49, .int .u8 10] 5 fz)) (some ⟨w.heap.size, 0, none⟩) 8 exText := by
  refine ⟨rfl, fun k hk => ⟨w.heap.size, 0, rfl, by simp, ?_⟩⟩
  have := (MapKept.heap_alloc w (.cells #[.int .u8 50, .int .u8 32, .int .u8 49, .int .u8 10, .int .u8 48, .int .u8 32, .int .u8 49, .int .u8 10] 5 fz)).1
  simp only [World.cell?, this]
  match k, hk with
  | 0, _ => rfl
  | 1, _ => rfl
  | 2, _ => rfl
  | 3, _ => rfl
  | 4, _ => rfl
  | 5, _ => rfl
  | 6, _ => rfl
  | 7, _ => rfl

set_option maxHeartbeats 1000000 in
theorem speaks_any (w : World) : Calls Tryd.prog 5 #[] w fun e w' => e = .returned (.bool true) ∧ Below w.heap.size w w' := by
  have kc := fun (w : World) (C : Array Value) (n c : Nat) => Lib.run_convert_bytes_const (P := Tryd.prog) w 34 5 C n c Tryd.underlying34 Tryd.underlying5
  go_enter Tryd.func5, Tryd.ntmps5
  go_wp2_with fail
  refine (read_ok _ _ 8 8 exText (bs_new w _) (by omega) 8 2 [(0, 1)] ex_graph (by decide) (by decide)).mono ?_
  rintro e w1 ⟨ae, ce, rfl, hE, hb⟩
  obtain ⟨_, _, h3⟩ := hE
  obtain ⟨g, off, ha, hB, hg, c0, c1⟩ := h3 0 (by simp)
  subst ha
  simp only [Nat.zero_mul, Nat.add_zero, toI, List.map_cons, List.map_nil, List.getD_cons_zero] at c0 c1
  have HB := hide hb
  have hz : w.heap.size < w1.heap.size := by have := hb.size; simp at this; omega
  clear hb h3 kc hB
  go_wp2
  go_ret
  refine ⟨rfl, ?_⟩
  exact ((((Below.refl _ _).alloc (Nat.le_refl _) _).trans ((unhide HB).mono (by simp))).alloc (by omega) _).alloc (by simp; omega) _
end Go.Proofs.YtdcfhdpbpfgohaaDoor

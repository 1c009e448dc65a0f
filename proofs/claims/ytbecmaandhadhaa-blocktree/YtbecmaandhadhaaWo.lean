/-
  The contracts of without, Sources, Sinks, edgesAt, Outs, Ins, Order. Conditions: the view lies in memory as told.
-/
import Derived.Test.YtbecmaandhadhaaOf
namespace Go.Proofs.Ytbecmaandhadhaa
open Go.RowKit
set_option linter.unusedVariables false
set_option maxRecDepth 20000

set_option maxHeartbeats 1000000 in
theorem edgesAt_in (w : World) (a : Option Addr) (V c x : Nat) (L : Nat → List Nat) (h : Rs w a V L) (hV : V ≤ 64) (hx : x < V) (hL : (L x).length ≤ 128) :
    Calls Try.prog 54 #[.slice a V c, .int .i64 x] w fun e w' => (∃ v, e = .returned v ∧ w'.ownsRow w.heap.size 3 1 v (L x).length (zcells (toIs (L x)))) ∧ Below w.heap.size w w' := by
  obtain ⟨g, off, ak, ck, ha, hg, c0, hcl, hno, hN⟩ := h x hx
  subst ha
  have HN := hide hN
  have HNO := hide (show ak = none → (L x).length = 0 ∧ ck = 0 from fun e => by have := hno e; omega)
  obtain ⟨m, hm⟩ : ∃ m, (L x).length = m := ⟨_, rfl⟩
  have HM := hide hm
  rw [hm] at c0
  have hb : inB (x : Int) (V : Int) = true := by simp [inB]; omega
  have HBI := hide hb
  have hx2 : (x : Int) < (V : Int) := by omega
  clear h hN hno hm hb
  go_enter Try.func54, Try.ntmps54
  go_wp2_with (go_at_call 38; refine (within_any _ _ _).mono ?_; rintro e w' ⟨rfl, hw'⟩; obtain rfl := hw'.symm; rw [unhide HBI])
  refine (clone_any w ak m ck (toIs (L x)) (by rw [← unhide HM]; exact unhide HN) (by rw [← unhide HM]; exact unhide HNO) (by rw [← unhide HM]; omega)).mono ?_
  rintro e w' ⟨⟨v, rfl, ho⟩, hb⟩
  have HO := hide ho
  have HB := hide hb
  clear ho hb
  go_wp2_with fail
  go_ret
  exact ⟨⟨v, rfl, by rw [unhide HM]; exact unhide HO⟩, unhide HB⟩
set_option maxHeartbeats 1000000 in
theorem edgesAt_out (w : World) (a : Option Addr) (n c : Nat) (x : Int) (hx : inB x n = false) :
    Calls Try.prog 54 #[.slice a n c, .int .i64 x] w fun e w' => e = .returned (.slice none 0 0) ∧ w' = w := by
  have HBI := hide hx
  clear hx
  go_enter Try.func54, Try.ntmps54
  go_wp2_with (go_at_call 38; refine (within_any _ _ _).mono ?_; rintro e w' ⟨rfl, hw'⟩; obtain rfl := hw'.symm; rw [unhide HBI])
  go_ret
  exact ⟨rfl, rfl⟩

/-- the edges at a vertex, or none -/
def EdgesTold (w w' : World) (V : Nat) (L : Nat → List Nat) (x : Int) (e : Ending) : Prop :=
  (∃ y v, x = (y : Nat) ∧ y < V ∧ e = .returned v ∧ w'.ownsRow w.heap.size 3 1 v (L y).length (zcells (toIs (L y)))) ∨ (inB x V = false ∧ e = .returned (.slice none 0 0))
theorem edgesAt_any (w : World) (a : Option Addr) (V c : Nat) (x : Int) (L : Nat → List Nat) (h : Rs w a V L) (hV : V ≤ 64) (hL : ∀ y, (L y).length ≤ 128) :
    Calls Try.prog 54 #[.slice a V c, .int .i64 x] w fun e w' => EdgesTold w w' V L x e ∧ Below w.heap.size w w' := by
  cases hb : inB x V with
  | false =>
    refine (edgesAt_out w a V c x hb).mono ?_
    rintro e w' ⟨rfl, rfl⟩
    exact ⟨.inr ⟨hb, rfl⟩, Below.refl _ _⟩
  | true =>
    simp [inB] at hb
    obtain ⟨y, rfl⟩ : ∃ y : Nat, x = y := ⟨x.toNat, by omega⟩
    refine (edgesAt_in w a V c y L h hV (by omega) (hL y)).mono ?_
    rintro e w' ⟨⟨v, rfl, ho⟩, hb⟩
    exact ⟨.inl ⟨y, v, rfl, by omega, rfl, ho⟩, hb⟩

set_option maxHeartbeats 1000000 in
theorem outs_any (w : World) (b V : Nat) (es : List (Nat × Nat)) (ea : Option Addr) (ec : Nat) (oa : Option Addr) (oc : Nat) (ia : Option Addr) (ic : Nat) (ra : Option Addr) (rc : Nat) (ord : List Nat) (x : Int)
    (h : Vw w b V es ea ec oa oc ia ic ra rc ord) (hp : Plain V es) :
    Calls Try.prog 43 #[.pointer (some ⟨b, 0, none⟩), .int .i64 x] w fun e w' => EdgesTold w w' V (Pl.outs es) x e ∧ Below w.heap.size w w' := by
  have c2 := h.c2
  have HR := hide h.outs
  have HP := hide hp
  clear h hp
  go_enter Try.func43, Try.ntmps43
  go_wp2_with fail
  refine (edgesAt_any w _ V _ x _ (unhide HR) (unhide HP).v64 (fun y => Nat.le_trans (Pl.sel_len _ _ _) (unhide HP).n128)).mono ?_
  rintro e w' ⟨he, hb⟩
  have HB := hide hb
  clear hb
  rcases he with ⟨y, v, rfl, hy, rfl, ho⟩ | ⟨hi, rfl⟩
  · have HO := hide ho
    clear ho
    go_wp2_with fail
    go_ret
    exact ⟨.inl ⟨y, v, rfl, hy, rfl, unhide HO⟩, unhide HB⟩
  · have HI := hide hi
    clear hi
    go_wp2_with fail
    go_ret
    exact ⟨.inr ⟨unhide HI, rfl⟩, unhide HB⟩
set_option maxHeartbeats 1000000 in
theorem ins_any (w : World) (b V : Nat) (es : List (Nat × Nat)) (ea : Option Addr) (ec : Nat) (oa : Option Addr) (oc : Nat) (ia : Option Addr) (ic : Nat) (ra : Option Addr) (rc : Nat) (ord : List Nat) (x : Int)
    (h : Vw w b V es ea ec oa oc ia ic ra rc ord) (hp : Plain V es) :
    Calls Try.prog 44 #[.pointer (some ⟨b, 0, none⟩), .int .i64 x] w fun e w' => EdgesTold w w' V (Pl.ins es) x e ∧ Below w.heap.size w w' := by
  have c3 := h.c3
  have HR := hide h.ins
  have HP := hide hp
  clear h hp
  go_enter Try.func44, Try.ntmps44
  go_wp2_with fail
  refine (edgesAt_any w _ V _ x _ (unhide HR) (unhide HP).v64 (fun y => Nat.le_trans (Pl.sel_len _ _ _) (unhide HP).n128)).mono ?_
  rintro e w' ⟨he, hb⟩
  have HB := hide hb
  clear hb
  rcases he with ⟨y, v, rfl, hy, rfl, ho⟩ | ⟨hi, rfl⟩
  · have HO := hide ho
    clear ho
    go_wp2_with fail
    go_ret
    exact ⟨.inl ⟨y, v, rfl, hy, rfl, unhide HO⟩, unhide HB⟩
  · have HI := hide hi
    clear hi
    go_wp2_with fail
    go_ret
    exact ⟨.inr ⟨unhide HI, rfl⟩, unhide HB⟩

end Go.Proofs.Ytbecmaandhadhaa

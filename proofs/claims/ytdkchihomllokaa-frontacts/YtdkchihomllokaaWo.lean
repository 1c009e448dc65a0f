/-
  The contracts of without, Sources, Sinks, edgesAt, Outs, Ins, Order. Conditions: the view lies in memory as told.
-/
import Derived.Test.YtdkchihomllokaaOf
namespace Go.Proofs.Ytdkchihomllokaa
open Go.RowKit
set_option linter.unusedVariables false
set_option maxRecDepth 20000

def bare (L : Nat → List Nat) (k : Nat) : List Nat := (List.range k).filter fun x => (L x).isEmpty
theorem bare_succ (L : Nat → List Nat) (k : Nat) : bare L (k + 1) = bare L k ++ if (L k).isEmpty then [k] else [] := by
  unfold bare
  rw [List.range_succ, List.filter_append]
  cases h : (L k).isEmpty <;> simp [h]
theorem bare_len (L : Nat → List Nat) (k : Nat) : (bare L k).length ≤ k := by
  have := List.length_filter_le (fun x => (L x).isEmpty) (List.range k)
  simpa [bare] using this

set_option maxHeartbeats 2000000 in
theorem without_any (w : World) (a : Option Addr) (V c : Nat) (L : Nat → List Nat) (h : Rs w a V L) (hV : V ≤ 64) :
    Calls Try.prog 69 #[.slice a V c] w fun e w' => (∃ v, e = .returned v ∧ w'.ownsRow w.heap.size 3 1 v (bare L V).length (zcells (toIs (bare L V)))) ∧ Below w.heap.size w w' := by
  have HR := hide h
  obtain ⟨i0, hi0, hz0, hz1, hz2⟩ := info_parts info3
  have HI := hide hi0
  have HZ0 := hide hz0
  have HZ1 := hide hz1
  have HZ2 := hide hz2
  clear h hi0 hz0 hz1 hz2
  go_enter Try.func69, Try.ntmps69
  go_wp2
  go_loopw [3, 8] (fun v i wr => ∃ k : Nat, i = .int .i64 k ∧ k ≤ V ∧ Hid (wr.ownsRow w.heap.size 3 1 v (bare L k).length (zcells (toIs (bare L k)))) ∧ Hid (Below w.heap.size w wr)) (fun v i wr => V - (intOf i).toNat)
  case atStart => exact ⟨0, rfl, by omega, World.ownsRow_nil _ _ _ _, Below.refl _ _⟩
  case round =>
    obtain ⟨k, rfl, hk, HO, HB⟩ := hrel
    have hbl := bare_len L k
    have hsz := (unhide HB).size
    by_cases hlt : k < V
    · obtain ⟨g, off, ak, ck, ha, hg, c0, _, _, _⟩ := unhide HR k hlt
      subst ha
      have d0 : wr.cell? ⟨g, off + k, none⟩ = some (.slice ak (L k).length ck) := by rw [(unhide HB).cell (p := ⟨g, off + k, none⟩) hg]; exact c0
      have hlt2 : (k : Int) < (V : Int) := by omega
      have hbs := bare_succ L k
      obtain ⟨m, hm⟩ : ∃ m, (L k).length = m := ⟨_, rfl⟩
      rw [hm] at d0
      clear c0
      by_cases hm0 : m = 0
      · subst hm0
        rw [if_pos (by simp [List.length_eq_zero_iff.1 hm])] at hbs
        have HBS := hide hbs
        clear hbs hm
        go_wp2_with (at_builtin; refine wpList_append_own _ rfl (.tmp 16) (.tmp 18) 34 rfl w.heap.size 3 i0 (.int .i64 0) 1 8 Try.underlying34 (unhide HI) (unhide HZ0) (unhide HZ1) (unhide HZ2) rfl (by decide) u3 (bare L k).length (zcells (toIs (bare L k))) rfl ((unhide HO).alloc _) ⟨wr.heap.size, 0, none⟩ 1 1 [.int .i64 k] rfl rfl (cell_one_new _ _ _) (one_int k) ?a3 ?a4 ?a5 ?_)
        case a3 => unfold maxLen; omega
        case a4 => omega
        case a5 => simp; omega
        intro v2 w4 hown4 hg4 _
        rw [zcells_snoc, toIs_snoc] at hown4
        have HO4 := hide hown4
        have HB4 := hide (((unhide HB).alloc hsz _).grown hg4 (by simp; omega) fun j hj => ((unhide HO).lt j hj).1)
        clear hown4 hg4
        go_wp2_with fail
        go_roundw
        case rel =>
          refine ⟨k + 1, by go_num, by omega, ?_, HB4⟩
          rw [unhide HBS, List.length_append]
          exact unhide HO4
        case measure => simp [intOf]; omega
      · rw [if_neg (by simp; intro he; rw [he] at hm; simp at hm; omega), List.append_nil] at hbs
        have HBS := hide hbs
        have hm1 : ((m : Int) == 0) = false := by rw [beq_eq_false_iff_ne]; omega
        clear hbs hm
        go_wp2_with fail
        go_roundw
        case rel => exact ⟨k + 1, by go_num, by omega, by rw [unhide HBS]; exact HO, HB⟩
        case measure => simp [intOf]; omega
    · obtain rfl : k = V := by omega
      go_wp2_with fail
      go_ret
      exact ⟨⟨_, rfl, unhide HO⟩, unhide HB⟩

set_option maxHeartbeats 1000000 in
theorem sources_any (w : World) (b V : Nat) (es : List (Nat × Nat)) (ea : Option Addr) (ec : Nat) (oa : Option Addr) (oc : Nat) (ia : Option Addr) (ic : Nat) (ra : Option Addr) (rc : Nat) (ord : List Nat)
    (h : Vw w b V es ea ec oa oc ia ic ra rc ord) (hV : V ≤ 64) :
    Calls Try.prog 49 #[.pointer (some ⟨b, 0, none⟩)] w fun e w' => (∃ v, e = .returned v ∧ w'.ownsRow w.heap.size 3 1 v (bare (Pl.ins es) V).length (zcells (toIs (bare (Pl.ins es) V)))) ∧ Below w.heap.size w w' := by
  have c3 := h.c3
  have HR := hide h.ins
  clear h
  go_enter Try.func49, Try.ntmps49
  go_wp2_with fail
  refine (without_any w _ V _ _ (unhide HR) hV).mono ?_
  rintro e w' ⟨⟨v, rfl, ho⟩, hb⟩
  have HO := hide ho
  have HB := hide hb
  clear ho hb
  go_wp2_with fail
  go_ret
  exact ⟨⟨v, rfl, unhide HO⟩, unhide HB⟩
set_option maxHeartbeats 1000000 in
theorem edgesAt_in (w : World) (a : Option Addr) (V c x : Nat) (L : Nat → List Nat) (h : Rs w a V L) (hV : V ≤ 64) (hx : x < V) (hL : (L x).length ≤ 128) :
    Calls Try.prog 52 #[.slice a V c, .int .i64 x] w fun e w' => (∃ v, e = .returned v ∧ w'.ownsRow w.heap.size 3 1 v (L x).length (zcells (toIs (L x)))) ∧ Below w.heap.size w w' := by
  obtain ⟨g, off, ak, ck, ha, hg, c0, hcl, hno, hN⟩ := h x hx
  subst ha
  have HN := hide hN
  have HNO := hide (show ak = none → (L x).length = 0 ∧ ck = 0 from fun e => by have := hno e; omega)
  obtain ⟨m, hm⟩ : ∃ m, (L x).length = m := ⟨_, rfl⟩
  have HM := hide hm
  rw [hm] at c0
  have hb : inB (x : Int) (V : Int) = true := by simp [inB]; omega
  have HBI := hide hb
  have hx2 : (x : Int) < (V : Int) := by omega
  clear h hN hno hm hb
  go_enter Try.func52, Try.ntmps52
  go_wp2_with (go_at_call 62; refine (within_any _ _ _).mono ?_; rintro e w' ⟨rfl, hw'⟩; obtain rfl := hw'.symm; rw [unhide HBI])
  refine (clone_any w ak m ck (toIs (L x)) (by rw [← unhide HM]; exact unhide HN) (by rw [← unhide HM]; exact unhide HNO) (by rw [← unhide HM]; omega)).mono ?_
  rintro e w' ⟨⟨v, rfl, ho⟩, hb⟩
  have HO := hide ho
  have HB := hide hb
  clear ho hb
  go_wp2_with fail
  go_ret
  exact ⟨⟨v, rfl, by rw [unhide HM]; exact unhide HO⟩, unhide HB⟩
set_option maxHeartbeats 1000000 in
theorem edgesAt_out (w : World) (a : Option Addr) (n c : Nat) (x : Int) (hx : inB x n = false) :
    Calls Try.prog 52 #[.slice a n c, .int .i64 x] w fun e w' => e = .returned (.slice none 0 0) ∧ w' = w := by
  have HBI := hide hx
  clear hx
  go_enter Try.func52, Try.ntmps52
  go_wp2_with (go_at_call 62; refine (within_any _ _ _).mono ?_; rintro e w' ⟨rfl, hw'⟩; obtain rfl := hw'.symm; rw [unhide HBI])
  go_ret
  exact ⟨rfl, rfl⟩

/-- the edges at a vertex, or none -/
def EdgesTold (w w' : World) (V : Nat) (L : Nat → List Nat) (x : Int) (e : Ending) : Prop :=
  (∃ y v, x = (y : Nat) ∧ y < V ∧ e = .returned v ∧ w'.ownsRow w.heap.size 3 1 v (L y).length (zcells (toIs (L y)))) ∨ (inB x V = false ∧ e = .returned (.slice none 0 0))
theorem edgesAt_any (w : World) (a : Option Addr) (V c : Nat) (x : Int) (L : Nat → List Nat) (h : Rs w a V L) (hV : V ≤ 64) (hL : ∀ y, (L y).length ≤ 128) :
    Calls Try.prog 52 #[.slice a V c, .int .i64 x] w fun e w' => EdgesTold w w' V L x e ∧ Below w.heap.size w w' := by
  cases hb : inB x V with
  | false =>
    refine (edgesAt_out w a V c x hb).mono ?_
    rintro e w' ⟨rfl, rfl⟩
    exact ⟨.inr ⟨hb, rfl⟩, Below.refl _ _⟩
  | true =>
    simp [inB] at hb
    obtain ⟨y, rfl⟩ : ∃ y : Nat, x = y := ⟨x.toNat, by omega⟩
    refine (edgesAt_in w a V c y L h hV (by omega) (hL y)).mono ?_
    rintro e w' ⟨⟨v, rfl, ho⟩, hb⟩
    exact ⟨.inl ⟨y, v, rfl, by omega, rfl, ho⟩, hb⟩

set_option maxHeartbeats 1000000 in
theorem outs_any (w : World) (b V : Nat) (es : List (Nat × Nat)) (ea : Option Addr) (ec : Nat) (oa : Option Addr) (oc : Nat) (ia : Option Addr) (ic : Nat) (ra : Option Addr) (rc : Nat) (ord : List Nat) (x : Int)
    (h : Vw w b V es ea ec oa oc ia ic ra rc ord) (hp : Plain V es) :
    Calls Try.prog 36 #[.pointer (some ⟨b, 0, none⟩), .int .i64 x] w fun e w' => EdgesTold w w' V (Pl.outs es) x e ∧ Below w.heap.size w w' := by
  have c2 := h.c2
  have HR := hide h.outs
  have HP := hide hp
  clear h hp
  go_enter Try.func36, Try.ntmps36
  go_wp2_with fail
  refine (edgesAt_any w _ V _ x _ (unhide HR) (unhide HP).v64 (fun y => Nat.le_trans (Pl.sel_len _ _ _) (unhide HP).n128)).mono ?_
  rintro e w' ⟨he, hb⟩
  have HB := hide hb
  clear hb
  rcases he with ⟨y, v, rfl, hy, rfl, ho⟩ | ⟨hi, rfl⟩
  · have HO := hide ho
    clear ho
    go_wp2_with fail
    go_ret
    exact ⟨.inl ⟨y, v, rfl, hy, rfl, unhide HO⟩, unhide HB⟩
  · have HI := hide hi
    clear hi
    go_wp2_with fail
    go_ret
    exact ⟨.inr ⟨unhide HI, rfl⟩, unhide HB⟩
set_option maxHeartbeats 1000000 in
theorem ins_any (w : World) (b V : Nat) (es : List (Nat × Nat)) (ea : Option Addr) (ec : Nat) (oa : Option Addr) (oc : Nat) (ia : Option Addr) (ic : Nat) (ra : Option Addr) (rc : Nat) (ord : List Nat) (x : Int)
    (h : Vw w b V es ea ec oa oc ia ic ra rc ord) (hp : Plain V es) :
    Calls Try.prog 28 #[.pointer (some ⟨b, 0, none⟩), .int .i64 x] w fun e w' => EdgesTold w w' V (Pl.ins es) x e ∧ Below w.heap.size w w' := by
  have c3 := h.c3
  have HR := hide h.ins
  have HP := hide hp
  clear h hp
  go_enter Try.func28, Try.ntmps28
  go_wp2_with fail
  refine (edgesAt_any w _ V _ x _ (unhide HR) (unhide HP).v64 (fun y => Nat.le_trans (Pl.sel_len _ _ _) (unhide HP).n128)).mono ?_
  rintro e w' ⟨he, hb⟩
  have HB := hide hb
  clear hb
  rcases he with ⟨y, v, rfl, hy, rfl, ho⟩ | ⟨hi, rfl⟩
  · have HO := hide ho
    clear ho
    go_wp2_with fail
    go_ret
    exact ⟨.inl ⟨y, v, rfl, hy, rfl, unhide HO⟩, unhide HB⟩
  · have HI := hide hi
    clear hi
    go_wp2_with fail
    go_ret
    exact ⟨.inr ⟨unhide HI, rfl⟩, unhide HB⟩

/-- the order, or that there is none -/
def OrderTold (w w' : World) (V : Nat) (ord : List Nat) (e : Ending) : Prop :=
  (ord.length < V ∧ e = .returned (.tuple #[.slice none 0 0, .bool false])) ∨ (V ≤ ord.length ∧ ∃ a c, e = .returned (.tuple #[.slice a ord.length c, .bool true]) ∧ w'.ownsRow w.heap.size 3 1 (.slice a ord.length c) ord.length (zcells (toIs ord)))
end Go.Proofs.Ytdkchihomllokaa

/-
  The contracts of isLeft, leastTail, without, Sources, Sinks. Conditions: the view lies in memory as told.
-/
import Derived.Test.YtdkchihomllokaaVw
import Derived.Test.YtdkchihomllokaaPl2
import Derived.WalkLawsBesides
namespace Go.Proofs.Ytdkchihomllokaa
open Go.RowKit
set_option linter.unusedVariables false
set_option maxRecDepth 20000

theorem mem_toIs {x : Nat} {l : List Nat} : (x : Int) ∈ toIs l ↔ x ∈ l := by
  unfold toIs
  rw [List.mem_map]
  constructor
  · rintro ⟨y, hy, he⟩
    have : y = x := by omega
    exact this ▸ hy
  · intro h
    exact ⟨x, h, rfl⟩

set_option maxHeartbeats 1000000 in
theorem isLeft_any (w : World) (b V : Nat) (es : List (Nat × Nat)) (ea : Option Addr) (ec : Nat) (oa : Option Addr) (oc : Nat) (ia : Option Addr) (ic : Nat) (ra : Option Addr) (rc : Nat) (x : Nat)
    (h : Vw w b V es ea ec oa oc ia ic ra rc (Pl.order V es)) :
    Calls Try.prog 64 #[.pointer (some ⟨b, 0, none⟩), .int .i64 x] w fun e w' => e = .returned (.bool (Pl.lf V es x)) ∧ w' = w := by
  have c4 := h.c4
  have HO := hide h.order
  have hx : (!decide ((x : Int) ∈ toIs (Pl.order V es))) = Pl.lf V es x := by
    unfold Pl.lf
    rw [← decide_not]
    simp [mem_toIs]
  have HX := hide hx
  obtain ⟨n, hn⟩ : ∃ n, (Pl.order V es).length = n := ⟨_, rfl⟩
  rw [hn] at c4
  have HN := hide hn
  clear h hx hn
  go_enter Try.func64, Try.ntmps64
  go_wp2_with fail
  refine (contains_any w _ n _ (toIs (Pl.order V es)) x (by rw [← unhide HN]; exact unhide HO)).mono ?_
  rintro e w' ⟨rfl, rfl⟩
  obtain ⟨r, hr⟩ : ∃ r, decide ((x : Int) ∈ toIs (Pl.order V es)) = r := ⟨_, rfl⟩
  have HR := hide hr
  rw [hr]
  clear hr
  go_wp2
  go_ret
  exact ⟨ret_b (by rw [← unhide HX, unhide HR]), rfl⟩

set_option maxHeartbeats 2000000 in
theorem leastTail_any (w : World) (b V : Nat) (es : List (Nat × Nat)) (ea : Option Addr) (ec : Nat) (oa : Option Addr) (oc : Nat) (ia : Option Addr) (ic : Nat) (ra : Option Addr) (rc : Nat) (x : Nat)
    (h : Vw w b V es ea ec oa oc ia ic ra rc (Pl.order V es)) (hx : x < V) (hp : Plain V es) :
    Calls Try.prog 65 #[.pointer (some ⟨b, 0, none⟩), .int .i64 x] w fun e w' => e = .returned (.int .i64 (Pl.bk V es x : Nat)) ∧ w' = w := by
  have hv64 := hp.v64
  have hn128 := hp.n128
  have HV := hide h
  have HP := hide hp
  have c0 := h.c0
  have c1 := h.c1
  have c3 := h.c3
  obtain ⟨g, off, ak, ck, ha, hg, cc, _, _, hN⟩ := h.ins x hx
  subst ha
  have hil : (Pl.ins es x).length ≤ es.length := Pl.sel_len _ _ _
  obtain ⟨m, hm⟩ : ∃ m, (Pl.ins es x).length = m := ⟨_, rfl⟩
  rw [hm] at cc hil
  have HM := hide hm
  have HN := hide hN
  have hx2 : (x : Int) < (V : Int) := by omega
  clear h hp hm hN
  go_enter Try.func65, Try.ntmps65
  go_wp2_with fail
  go_loop [5, 22] (fun a i => ∃ j : Nat, i = .int .i64 j ∧ j ≤ m ∧ a = .int .i64 (Pl.backI V es x j : Nat)) (fun a i => m - (intOf i).toNat)
  case atStart => exact ⟨0, rfl, by omega, by rw [Pl.backI_zero]⟩
  case round =>
    obtain ⟨j, rfl, hj, rfl⟩ := hrel
    by_cases hjm : j < m
    · obtain ⟨ga, offa, haa, hga, e0⟩ := ns_at (unhide HN) (i := j) (by rw [unhide HM]; exact hjm)
      obtain ⟨ed, hed⟩ : ∃ ed, (Pl.ins es x).getD j 0 = ed := ⟨_, rfl⟩
      rw [hed] at e0
      have hedm : ed ∈ Pl.ins es x := by
        rw [← hed]
        have hjj : j < (Pl.ins es x).length := by rw [unhide HM]; exact hjm
        simp [List.getD, hjj]
      have hedl : ed < es.length := (Pl.mem_sel.1 hedm).1
      obtain ⟨ge, offe, hae, hge, f0, f1⟩ := es_at (unhide HV).edges hedl
      have hyV := ((unhide HP).at hedl).1
      have hstep := Pl.backI_succ V es x j (by rw [unhide HM]; exact hjm)
      rw [hed] at hstep
      obtain ⟨y, hy⟩ : ∃ y, (Pl.at' es ed).1 = y := ⟨_, rfl⟩
      rw [hy] at f0 hyV hstep
      subst haa
      subst hae
      have hble := Pl.backI_le V es x j
      obtain ⟨z, hz⟩ : ∃ z, Pl.backI V es x j = z := ⟨_, rfl⟩
      rw [hz] at hstep hble ⊢
      have HST := hide hstep
      have hjm2 : (j : Int) < (m : Int) := by omega
      have hed2 : (ed : Int) < (es.length : Int) := by omega
      clear f1 hed hy hz hstep hedm
      cases hl : Pl.lf V es y with
      | true =>
        have HL := hide hl
        clear hl
        go_wp2_with fail
        refine (isLeft_any w b V es _ _ _ _ _ _ _ _ y (unhide HV)).mono ?_
        rintro e w' ⟨rfl, rfl⟩
        rw [unhide HL]
        go_wp2_with fail
        go_round
        case rel =>
          refine ⟨j + 1, by go_num, by omega, ?_⟩
          rw [unhide HST, if_pos (unhide HL)]
          first | rfl | go_num
        case measure => simp [intOf]; omega
      | false =>
        have HL := hide hl
        clear hl
        go_wp2_with fail
        refine (isLeft_any w b V es _ _ _ _ _ _ _ _ y (unhide HV)).mono ?_
        rintro e w' ⟨rfl, rfl⟩
        rw [unhide HL]
        go_wp2_with fail
        go_round
        case rel =>
          refine ⟨j + 1, by go_num, by omega, ?_⟩
          rw [unhide HST, if_neg (by rw [unhide HL]; simp)]
        case measure => simp [intOf]; omega
    · obtain rfl : j = m := by omega
      go_wp2_with fail
      go_ret
      refine ⟨ret_i ?_, rfl⟩
      rw [← unhide HM, Pl.backI_end]
      rfl
end Go.Proofs.Ytdkchihomllokaa

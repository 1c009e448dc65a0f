/-
  The walk of the statement RotationTells. Conditions: the graph and the lists lie in memory as told; the table of math/bits lies where it should.
-/
import Derived.Test.YtmklngabfdnclaaDoorSi
import Derived.Test.YtmklngabfdnclaaDoorSp
namespace Go.Proofs.YtmklngabfdnclaaDoor
open Go.RowKit
set_option linter.unusedVariables false
set_option maxRecDepth 20000

set_option maxHeartbeats 4000000 in
theorem tells_great (w : World) (V : Int) (a : Option Addr) (n cap : Nat) (ra : Option Addr) (m rc : Nat) (rs : List (List Int)) (hr : Rq w ra m rs) (hg : GreatP n m rs) :
    Calls Tryd.prog 3 #[.agg #[.int .i64 V, .slice a n cap], .slice ra m rc] w fun e w' => e = .returned (.bool true) ∧ Below w.heap.size w w' := by
  have HR := hide hr
  have HG := hide hg
  have HB0 := hide (Bg.start w (.int .i64 V) (.slice a n cap))
  clear hr hg
  go_enter Tryd.func3, Tryd.ntmps3
  go_wp2_with fail
  refine (speaks_any _).mono ?_
  rintro e w1 ⟨rfl, hb1⟩
  have HB1 := hide ((unhide HB0).step hb1)
  obtain ⟨g0, g1⟩ := (unhide HB1).cells
  clear hb1 HB0
  go_wp2_with fail
  refine (great_any w1 V a n cap ra m rc rs ((unhide HR).below (unhide HB1).bel)).mono ?_
  rintro e w2 ⟨⟨r, rfl, hr⟩, hb2⟩
  have hrt : r = true := hr.2 (unhide HG)
  subst hrt
  have HB2 := hide ((unhide HB1).step hb2)
  clear hb2 HB1 g0 g1 hr
  go_wp2_with fail
  go_ret
  exact ⟨rfl, (unhide HB2).bel⟩

set_option maxHeartbeats 8000000 in
theorem tells_bad (w : World) (V : Int) (a : Option Addr) (n cap : Nat) (es : List (Int × Int)) (h : Es 0 w a n es) (ra : Option Addr) (m rc : Nat) (rs : List (List Int)) (hq : Rq w ra m rs) (hg : ¬ GreatP n m rs) (hno : ¬ IsRot V n es rs) :
    Calls Tryd.prog 3 #[.agg #[.int .i64 V, .slice a n cap], .slice ra m rc] w fun e w' => e = .returned (.bool true) ∧ Below w.heap.size w w' := by
  have hm70 : m ≤ 70 := Nat.le_of_not_lt fun h => hg (.inr (.inl h))
  have hl200 : ∀ k, k < m → (rs.getD k []).length ≤ 200 := fun k hk => Nat.le_of_not_lt fun h => hg (.inr (.inr ⟨k, hk, h⟩))
  have hr : Rr w ra m rs := hq.rr (by omega) fun k hk => by have := hl200 k hk; omega
  have HR := hide hq
  have HG := hide hg
  have HNO := hide hno
  have HB0 := hide (Bg.start w (.int .i64 V) (.slice a n cap))
  have C8 := hide (fun (u : World) (hu : Below w.heap.size w u) => faces_bad u V a n cap es (h.below hu) ra m rc rs (hr.below hu) hno)
  have C9 := hide (fun (u : World) (hu : Below w.heap.size w u) => genus_bad u V a n cap es (h.below hu) ra m rc rs (hr.below hu) hno)
  have C10 := hide (fun (u : World) (hu : Below w.heap.size w u) => refright_any u V a n cap es (h.below hu) ra m rc rs (hr.below hu) (fun k hk => by have := hl200 k hk; omega) (by omega))
  have C11 := hide (fun (u : World) (hu : Below w.heap.size w u) => right_any u V a n cap es (h.below hu) ra m rc rs (hr.below hu))
  clear hq hg hno h hr hl200
  go_enter Tryd.func3, Tryd.ntmps3
  go_wp2_with fail
  refine (speaks_any _).mono ?_
  rintro e w1 ⟨rfl, hb1⟩
  have HB1 := hide ((unhide HB0).step hb1)
  obtain ⟨g0, g1⟩ := (unhide HB1).cells
  clear hb1 HB0
  go_wp2_with fail
  refine (great_any w1 V a n cap ra m rc rs ((unhide HR).below (unhide HB1).bel)).mono ?_
  rintro e w2 ⟨⟨r, rfl, hr⟩, hb2⟩
  have hrt : r = false := by
    cases r with
    | false => rfl
    | true => exact absurd (hr.1 rfl) (unhide HG)
  subst hrt
  have HB2 := hide ((unhide HB1).step hb2)
  clear hb2 HB1 g0 g1 hr
  obtain ⟨g0, g1⟩ := (unhide HB2).cells
  go_wp2_with fail
  refine (unhide C8 w2 (unhide HB2).bel).mono ?_
  rintro e w3 ⟨rfl, hb3⟩
  have HB3 := hide ((unhide HB2).step hb3)
  clear hb3 HB2 g0 g1
  obtain ⟨g0, g1⟩ := (unhide HB3).cells
  go_wp2_with fail
  refine (unhide C9 w3 (unhide HB3).bel).mono ?_
  rintro e w4 ⟨rfl, hb4⟩
  have HB4 := hide ((unhide HB3).step hb4)
  clear hb4 HB3 g0 g1
  obtain ⟨g0, g1⟩ := (unhide HB4).cells
  go_wp2_with fail
  refine (unhide C10 w4 (unhide HB4).bel).mono ?_
  rintro e w5 ⟨⟨r, rfl, hr⟩, hb5⟩
  have hrt : r = false := by
    cases r with
    | false => rfl
    | true => exact absurd (hr.1 rfl) (unhide HNO)
  subst hrt
  have HB5 := hide ((unhide HB4).step hb5)
  clear hb5 HB4 g0 g1 hr
  obtain ⟨g0, g1⟩ := (unhide HB5).cells
  go_wp2_with fail
  refine (unhide C11 w5 (unhide HB5).bel).mono ?_
  rintro e w6 ⟨⟨r, rfl, hr⟩, hb6⟩
  have hrt : r = false := by
    cases r with
    | false => rfl
    | true => exact absurd (hr.1 rfl) (unhide HNO)
  subst hrt
  have HB6 := hide ((unhide HB5).step hb6)
  clear hb6 HB5 g0 g1 hr
  go_wp2_with fail
  go_ret
  exact ⟨by first | rfl | simp, (unhide HB6).bel⟩

set_option maxHeartbeats 8000000 in
theorem tells_good (w : World) (hT : pt.Tab w) (V : Nat) (a : Option Addr) (n cap : Nat) (es : List (Nat × Nat)) (h : Es 0 w a n (toI es)) (hne : es.length = n) (hp : pt.Plain V es) (ra : Option Addr) (m rc : Nat) (q : List (List Nat)) (hq : Rq w ra m (rowsI q)) (hg : ¬ GreatP n m (rowsI q)) (hyes : IsRot V n (toI es) (rowsI q)) (ro : pt.Ro V es q) :
    Calls Tryd.prog 3 #[.agg #[.int .i64 V, .slice a n cap], .slice ra m rc] w fun e w' => e = .returned (.bool true) ∧ Below w.heap.size w w' := by
  have hn60 : n ≤ 60 := Nat.le_of_not_lt fun h => hg (.inl h)
  have hm70 : m ≤ 70 := Nat.le_of_not_lt fun h => hg (.inr (.inl h))
  have hl200 : ∀ k, k < m → ((rowsI q).getD k []).length ≤ 200 := fun k hk => Nat.le_of_not_lt fun h => hg (.inr (.inr ⟨k, hk, h⟩))
  have hr : Rr w ra m (rowsI q) := hq.rr (by omega) fun k hk => by have := hl200 k hk; omega
  have hN := pt.nx_behind ro
  obtain ⟨N, hNe⟩ : ∃ N, pt.nxF es q = N := ⟨_, rfl⟩
  rw [hNe] at hN
  have hpm : Pm N (2 * n) := by rw [← hne]; exact pt.nx_pm ro hN
  obtain ⟨c, hc⟩ := pt.cnt_ex V es
  obtain ⟨g, hgg⟩ := pt.euler ro hN (pt.nx_pm ro hN) hc
  rw [hne] at hgg
  have hgg' : 2 * c + n = V + cyc N (2 * n) + emp q V + 2 * g := hgg
  have hgb : g ≤ 1000 := by
    obtain ⟨r, _, rfl⟩ := hc
    have := Nat.le_trans (List.length_filter_le r (List.range V)) (Nat.le_of_eq List.length_range)
    have := hp.v64
    omega
  have C8 := hide (fun (u : World) (hu : Below w.heap.size w u) => faces_good u V a n cap (toI es) (h.below hu) ra m rc q (hr.below hu) hyes N hN hpm (by rw [← hne]; exact ro.lt') (by rw [← hne]; exact ro.cov))
  have C9 := hide (fun (u : World) (hu : Below w.heap.size w u) => genus_good u (hT.below hu) V a n cap es (h.below hu) hne hp ra m rc q (hr.below hu) hyes ro N hN c g hc hgg')
  have C10 := hide (fun (u : World) (hu : Below w.heap.size w u) => refright_any u V a n cap (toI es) (h.below hu) ra m rc _ (hr.below hu) (fun k hk => by have := hl200 k hk; omega) (by omega))
  have C11 := hide (fun (u : World) (hu : Below w.heap.size w u) => right_any u V a n cap (toI es) (h.below hu) ra m rc _ (hr.below hu))
  have C12 := hide (fun (u : World) (hu : Below w.heap.size w u) => reffaces_any u V a n cap es (h.below hu) hne (by omega) ra m rc q (hr.below hu) ro N hN)
  have C13 := hide (fun (u : World) (hu : Below w.heap.size w u) => refgenus_any u V a n cap es (h.below hu) hne hp ra m rc q (hr.below hu) ro N hN c g hc hgg')
  have HR := hide hq
  have HG := hide hg
  have HYES := hide hyes
  have hfl := facesF_len N (2 * n) (2 * n)
  have HB0 := hide (Bg.start w (.int .i64 V) (.slice a n cap))
  obtain ⟨Fs, hFs⟩ : ∃ Fs, facesF N (2 * n) (2 * n) = Fs := ⟨_, rfl⟩
  simp only [hFs] at C8 C12
  rw [hFs] at hfl
  clear hq hg hyes h hr hl200 ro hN hNe hpm hc hgg hgg' hFs hp hne hT
  obtain ⟨k0, hk0⟩ : ∃ k, Fs.length = k := ⟨_, rfl⟩
  rw [hk0] at C8 C12 hfl
  have HK0 := hide hk0
  clear hk0
  have t0 : ((k0 : Int) != (k0 : Int)) = false := by simp
  have t1 : ((g : Int) != (g : Int)) = false := by simp
  have t2 : ((0 : Int) != (0 : Int)) = false := by simp
  have t3 : decide ((g : Int) < 0) = false := decide_eq_false (by omega)
  have t3' : ¬ (g : Int) < 0 := by omega
  go_enter Tryd.func3, Tryd.ntmps3
  go_wp2_with fail
  refine (speaks_any _).mono ?_
  rintro e w1 ⟨rfl, hb1⟩
  have HB1 := hide ((unhide HB0).step hb1)
  obtain ⟨g0, g1⟩ := (unhide HB1).cells
  clear hb1 HB0
  go_wp2_with fail
  refine (great_any w1 V a n cap ra m rc _ ((unhide HR).below (unhide HB1).bel)).mono ?_
  rintro e w2 ⟨⟨r, rfl, hr⟩, hb2⟩
  have hrt : r = false := by
    cases r with
    | false => rfl
    | true => exact absurd (hr.1 rfl) (unhide HG)
  subst hrt
  have HB2 := hide ((unhide HB1).step hb2)
  clear hb2 HB1 g0 g1 hr
  obtain ⟨g0, g1⟩ := (unhide HB2).cells
  go_wp2_with fail
  refine (unhide C8 w2 (unhide HB2).bel).mono ?_
  rintro e w3 ⟨⟨fa, fc, rfl, _, hrf⟩, hb3⟩
  have HB3 := hide ((unhide HB2).step hb3)
  have HF3 := hide hrf
  clear hb3 HB2 g0 g1 hrf
  obtain ⟨g0, g1⟩ := (unhide HB3).cells
  go_wp2_with fail
  refine (unhide C9 w3 (unhide HB3).bel).mono ?_
  rintro e w4 ⟨rfl, hb4⟩
  have HB4 := hide ((unhide HB3).step hb4)
  have HF4 := hide ((unhide HF3).below hb4)
  clear hb4 HB3 g0 g1 HF3
  obtain ⟨g0, g1⟩ := (unhide HB4).cells
  go_wp2_with fail
  refine (unhide C10 w4 (unhide HB4).bel).mono ?_
  rintro e w5 ⟨⟨r, rfl, hr⟩, hb5⟩
  have hrt : r = true := hr.2 (unhide HYES)
  subst hrt
  have HB5 := hide ((unhide HB4).step hb5)
  have HF5 := hide ((unhide HF4).below hb5)
  clear hb5 HB4 g0 g1 hr HF4
  obtain ⟨g0, g1⟩ := (unhide HB5).cells
  go_wp2_with fail
  refine (unhide C12 w5 (unhide HB5).bel).mono ?_
  rintro e w6 ⟨⟨qa, qc, rfl, _, hrq⟩, hb6⟩
  have HB6 := hide ((unhide HB5).step hb6)
  have HF6 := hide ((unhide HF5).below hb6)
  have HQ6 := hide hrq
  clear hb6 HB5 g0 g1 HF5 hrq
  obtain ⟨g0, g1⟩ := (unhide HB6).cells
  go_wp2_with fail
  refine (unhide C11 w6 (unhide HB6).bel).mono ?_
  rintro e w7 ⟨⟨r, rfl, hr⟩, hb7⟩
  have hrt : r = true := hr.2 (unhide HYES)
  subst hrt
  have HB7 := hide ((unhide HB6).step hb7)
  have HF7 := hide ((unhide HF6).below hb7)
  have HQ7 := hide ((unhide HQ6).below hb7)
  clear hb7 HB6 g0 g1 hr HF6 HQ6
  obtain ⟨g0, g1⟩ := (unhide HB7).cells
  go_wp2_with fail
  refine (unhide C13 w7 (unhide HB7).bel).mono ?_
  rintro e w8 ⟨rfl, hb8⟩
  have HB8 := hide ((unhide HB7).step hb8)
  have HF8 := hide ((unhide HF7).below hb8)
  have HQ8 := hide ((unhide HQ7).below hb8)
  clear hb8 HB7 g0 g1 HF7 HQ7 C8 C9 C10 C11 C12 C13
  go_wp2_with fail
  have HW0 := hide (show ∃ j, w8 = w8.drewN j from ⟨0, rfl⟩)
  go_loopw [76] (fun i wr => ∃ k : Nat, i = .int .i64 k ∧ k ≤ k0 ∧ Hid (∃ j, wr = w8.drewN j)) (fun i wr => k0 - (intOf i).toNat)
  case atStart => exact ⟨0, rfl, by omega, HW0⟩
  case round =>
    clear HW0
    obtain ⟨k, rfl, hk, HW⟩ := hrel
    by_cases hkm : k < k0
    · have hkm2 : (k : Int) < (k0 : Int) := by omega
      have HPr := hide (show Rr wr fa k0 (rowsI Fs) by obtain ⟨j, rfl⟩ := unhide HW; exact (unhide HF8).below (below_refl_draws _ _))
      have HQr := hide (show Rr wr qa k0 (rowsI Fs) by obtain ⟨j, rfl⟩ := unhide HW; exact (unhide HQ8).below (below_refl_draws _ _))
      obtain ⟨gp, op, ak, ck, ha, hgp, d0, _, hna⟩ := (unhide HPr).2.2 k hkm
      obtain ⟨gq, oq, ak2, ck2, ha2, hgq, d2, _, hnb⟩ := (unhide HQr).2.2 k hkm
      subst ha
      subst ha2
      obtain ⟨l, hl⟩ : ∃ l, (rowsI Fs).getD k [] = l := ⟨_, rfl⟩
      rw [hl] at d0 d2 hna hnb
      obtain ⟨len, hlen⟩ : ∃ len, l.length = len := ⟨_, rfl⟩
      rw [hlen] at d0 d2 hna hnb
      have HC := hide (fun x => same_yes (wr.drewN x) ak ak2 len ck ck2 l hna hnb)
      clear hna hnb hl hlen HPr HQr
      go_wp2_with fail
      go_quiet ((go_at_call 14; exact Calls.quiet_of (unhide HC _)))
      go_wp2_with fail
      go_roundw
      case rel =>
        refine ⟨k + 1, by go_num, by omega, ?_⟩
        obtain ⟨j, rfl⟩ := unhide HW
        exact ⟨_, (by first | rfl | exact World.drewN_drewN _ _ _)⟩
      case measure => simp [intOf]; omega
    · obtain rfl : k = k0 := by omega
      go_wp2_with fail
      go_ret
      refine ⟨rfl, ?_⟩
      obtain ⟨j, rfl⟩ := unhide HW
      exact (unhide HB8).bel.trans (below_refl_draws _ j)

theorem tells_any (w : World) (hT : pt.Tab w) (V : Int) (a : Option Addr) (n cap : Nat) (zs : List (Int × Int)) (h : 200 < n ∨ Es 0 w a n zs) (ra : Option Addr) (m rc : Nat) (rs : List (List Int)) (hq : Rq w ra m rs) :
    Calls Tryd.prog 3 #[.agg #[.int .i64 V, .slice a n cap], .slice ra m rc] w fun e w' => e = .returned (.bool true) ∧ Below w.heap.size w w' := by
  by_cases hg : GreatP n m rs
  · exact tells_great w V a n cap ra m rc rs hq hg
  have hn60 : n ≤ 60 := Nat.le_of_not_lt fun h => hg (.inl h)
  have hE : Es 0 w a n zs := h.resolve_left (by omega)
  by_cases hrot : IsRot V n zs rs
  · obtain ⟨v, es, rfl, rfl, hne, hp⟩ := pt.plain_of_good hE.1 hrot.good
    subst hne
    obtain ⟨q, rfl, ro⟩ := pt.ro_of hp hrot
    exact tells_good w hT v a es.length cap es hE rfl hp ra m rc q hq hg hrot ro
  · exact tells_bad w V a n cap zs hE ra m rc rs hq hg hrot
end Go.Proofs.YtmklngabfdnclaaDoor


/-
  The walk of the statement GraphLeast. Conditions: its arguments lie in memory as their reading says.
-/
import Derived.Test.YtgbdnpmpkilcoaaLawOpen
import Derived.Test.YtgbdnpmpkilcoaaSpeaks
import Derived.Test.YtgbdnpmpkilcoaaRight
import Derived.Test.YtgbdnpmpkilcoaaRefMay
namespace Go.Proofs.Ytgbdnpmpkilcoaa
open Go.RowKit
set_option linter.unusedVariables false

set_option maxHeartbeats 1000000 in
theorem refMay_big (w : World) (V : Int) (a : Option Addr) (n cap : Nat) (h : 128 < n) :
    Calls Try.prog 13 #[.agg #[.int .i64 V, .slice a n cap]] w fun e w' => e = .returned (.bool false) ∧ Below w.heap.size w w' := by
  by_cases h1 : 1 ≤ V
  case neg =>
    go_enter Try.func13, Try.ntmps13
    go_wp2
    go_ret
    exact ⟨rfl, (Below.refl _ _).alloc (Nat.le_refl _) _⟩
  by_cases h2 : V ≤ 64
  case neg =>
    go_enter Try.func13, Try.ntmps13
    go_wp2
    go_ret
    exact ⟨rfl, (Below.refl _ _).alloc (Nat.le_refl _) _⟩
  have h3' : (128 : Int) < (n : Int) := by omega
  go_enter Try.func13, Try.ntmps13
  go_wp2
  go_ret
  exact ⟨rfl, (Below.refl _ _).alloc (Nat.le_refl _) _⟩

/-- the document's May refuses, whatever the size -/
theorem refMay_no (w : World) (V : Int) (a : Option Addr) (n cap : Nat) (zs : List (Int × Int)) (hE : 200 < n ∨ Es 0 w a n zs) (hG : ¬ (n ≤ 200 ∧ Good V n zs)) :
    Calls Try.prog 13 #[.agg #[.int .i64 V, .slice a n cap]] w fun e w' => e = .returned (.bool false) ∧ Below w.heap.size w w' := by
  by_cases hn : 128 < n
  · exact refMay_big w V a n cap hn
  · refine (refMay_any w V a n cap zs (hE.resolve_left (by omega))).mono ?_
    rintro e w' ⟨⟨r, rfl, hr⟩, hb⟩
    cases r with
    | false => exact ⟨rfl, hb⟩
    | true => exact absurd ⟨by omega, hr.1 rfl⟩ hG

set_option maxHeartbeats 4000000 in
theorem least_bad (w : World) (V : Int) (a oa : Option Addr) (n cap m oc : Nat) (zs : List (Int × Int)) (hE : 200 < n ∨ Es 0 w a n zs) (hG : ¬ (n ≤ 200 ∧ Good V n zs)) :
    Calls Try.prog 7 #[.agg #[.int .i64 V, .slice a n cap], .slice oa m oc] w fun e w' => e = .returned (.bool true) ∧ Below w.heap.size w w' := by
  have HB0 := hide (Bg.start w (.int .i64 V) (.slice a n cap))
  have HE := hide hE
  have HG := hide hG
  clear hE hG
  go_enter Try.func7, Try.ntmps7
  go_wp2_with fail
  refine (speaks_any _).mono ?_
  rintro e w1 ⟨rfl, hb1⟩
  have HB1 := hide ((unhide HB0).step hb1)
  obtain ⟨g0, g1⟩ := (unhide HB1).cells
  have hE1 : 200 < n ∨ Es 0 w1 a n zs := (unhide HE).imp id fun h => h.below (unhide HB1).bel
  have HE1 := hide hE1
  clear hb1 hE1
  go_wp2_with fail
  refine (refMay_no w1 V a n cap zs (unhide HE1) (unhide HG)).mono ?_
  rintro e w2 ⟨rfl, hb2⟩
  have HB2 := hide ((unhide HB1).step hb2)
  clear hb2 g0 g1
  go_wp2_with fail
  go_ret
  exact ⟨rfl, (unhide HB2).bel⟩

set_option maxHeartbeats 4000000 in
theorem least_long (w : World) (V : Nat) (a oa : Option Addr) (cap m oc : Nat) (es : List (Nat × Nat)) (hE : Es 0 w a es.length (toI es)) (hp : Plain V es) (hm : 70 < m) :
    Calls Try.prog 7 #[.agg #[.int .i64 V, .slice a es.length cap], .slice oa m oc] w fun e w' => e = .returned (.bool true) ∧ Below w.heap.size w w' := by
  have HB0 := hide (Bg.start w (.int .i64 V) (.slice a es.length cap))
  have HE := hide hE
  have HG := hide (good_of_plain hp)
  have hm2 : (70 : Int) < (m : Int) := by omega
  clear hE hp
  go_enter Try.func7, Try.ntmps7
  go_wp2_with fail
  refine (speaks_any _).mono ?_
  rintro e w1 ⟨rfl, hb1⟩
  have HB1 := hide ((unhide HB0).step hb1)
  obtain ⟨g0, g1⟩ := (unhide HB1).cells
  clear hb1
  go_wp2_with fail
  refine (refMay_any w1 V a es.length cap (toI es) ((unhide HE).below (unhide HB1).bel)).mono ?_
  rintro e w2 ⟨⟨r, rfl, hr⟩, hb2⟩
  have hrt : r = true := hr.2 (unhide HG)
  subst hrt
  have HB2 := hide ((unhide HB1).step hb2)
  clear hb2 g0 g1 hr
  go_wp2_with fail
  go_ret
  exact ⟨rfl, (unhide HB2).bel⟩

set_option maxHeartbeats 8000000 in
theorem least_good (w : World) (V : Nat) (a oa : Option Addr) (cap m oc : Nat) (es : List (Nat × Nat)) (xs : List Int) (hE : Es 0 w a es.length (toI es)) (hno : a = none → es.length = 0 ∧ cap = 0) (hp : Plain V es) (hO : Ns w oa m xs) (hm : m ≤ 70) :
    Calls Try.prog 7 #[.agg #[.int .i64 V, .slice a es.length cap], .slice oa m oc] w fun e w' => e = .returned (.bool true) ∧ Below w.heap.size w w' := by
  have hv64 := hp.v64
  have HB0 := hide (Bg.start w (.int .i64 V) (.slice a es.length cap))
  have HE := hide hE
  have HP := hide hp
  have HNO := hide hno
  have HO := hide hO
  have HG := hide (good_of_plain hp)
  have hm2 : ¬ (70 : Int) < (m : Int) := by omega
  obtain ⟨n, hn⟩ : ∃ n, es.length = n := ⟨_, rfl⟩
  have HN := hide hn
  rw [hn] at HB0 ⊢
  clear hE hp hno hO hn
  go_enter Try.func7, Try.ntmps7
  go_wp2_with fail
  refine (speaks_any _).mono ?_
  rintro e w1 ⟨rfl, hb1⟩
  have HB1 := hide ((unhide HB0).step hb1)
  obtain ⟨g0, g1⟩ := (unhide HB1).cells
  clear hb1
  go_wp2_with fail
  refine (refMay_any w1 V a n cap (toI es) (by rw [← unhide HN]; exact (unhide HE).below (unhide HB1).bel)).mono ?_
  rintro e w2 ⟨⟨r, rfl, hr⟩, hb2⟩
  have hrt : r = true := hr.2 (by rw [← unhide HN]; exact unhide HG)
  subst hrt
  have HB2 := hide ((unhide HB1).step hb2)
  clear hb2 g0 g1 hr
  obtain ⟨g0, g1⟩ := (unhide HB2).cells
  have hof := of_good w2 V a cap es ((unhide HE).below (unhide HB2).bel) (unhide HNO) (unhide HP)
  rw [unhide HN] at hof
  have HOF := hide hof
  clear hof
  go_wp2_with fail
  refine (unhide HOF).mono ?_
  rintro e w3 ⟨⟨b, ea, ec, va, vc, ia, ic, ra, rc, rfl, hbb, hvw⟩, hb3⟩
  have HB3 := hide ((unhide HB2).step hb3)
  have HVW := hide hvw
  have hol := (Pl.order_run V es).1.le
  clear hb3 hvw HOF g0 g1
  go_wp2_with fail
  refine (order_any w3 b V es _ _ _ _ _ _ _ _ _ (unhide HVW) hv64 (by omega)).mono ?_
  rintro e w4 ⟨hot, hb4⟩
  have HB4 := hide ((unhide HB3).step hb4)
  obtain ⟨g0, g1⟩ := (unhide HB4).cells
  clear hb4
  have hro := right_any w4 V a cap es oa m oc xs (B := 0) ((unhide HE).below (unhide HB4).bel) (unhide HP) ((unhide HO).below (unhide HB4).bel)
  rw [unhide HN] at hro
  have HRO := hide hro
  clear hro
  rcases hot with ⟨hlt, rfl⟩ | ⟨hge, la, lc, rfl, hown⟩
  · have HNR := hide (no_right (unhide HP) hlt xs)
    clear hlt
    go_wp2_with fail
    refine (unhide HRO).mono ?_
    rintro e w5 ⟨⟨r, rfl, hr⟩, hb5⟩
    have hrf : r = false := by
      cases r with
      | false => rfl
      | true => exact absurd (hr.1 rfl) (unhide HNR)
    subst hrf
    have HB5 := hide ((unhide HB4).step hb5)
    clear hb5 hr
    go_wp2_with fail
    go_ret
    exact ⟨rfl, (unhide HB5).bel⟩
  · have HOR := hide (order_right (unhide HP) hge)
    obtain ⟨_, _, hsl, hcl, hNl⟩ := ns_of_owns hown (by omega)
    obtain ⟨rfl, rfl⟩ : la = _ ∧ lc = _ := by simpa using hsl
    have hlV : (Pl.order V es).length = V := by omega
    rw [hlV] at hNl ⊢
    have HNL := hide hNl
    have hrl := right_any w4 V a cap es la V lc (toIs (Pl.order V es)) (B := 0) ((unhide HE).below (unhide HB4).bel) (unhide HP) hNl
    rw [unhide HN] at hrl
    have HRL := hide hrl
    have HLV := hide hlV
    clear hown hsl hcl hNl hlV hrl hge
    go_wp2_with fail
    refine (unhide HRL).mono ?_
    rintro e w5 ⟨⟨r, rfl, hr⟩, hb5⟩
    have hrt : r = true := hr.2 (unhide HOR)
    subst hrt
    have HB5 := hide ((unhide HB4).step hb5)
    have HNL5 := hide ((unhide HNL).below hb5)
    clear g0 g1 hb5 hr HRO HRL
    obtain ⟨g0, g1⟩ := (unhide HB5).cells
    have hro := right_any w5 V a cap es oa m oc xs (B := 0) ((unhide HE).below (unhide HB5).bel) (unhide HP) ((unhide HO).below (unhide HB5).bel)
    rw [unhide HN] at hro
    have HRO := hide hro
    clear hro
    go_wp2_with fail
    refine (unhide HRO).mono ?_
    rintro e w6 ⟨⟨r, rfl, hr⟩, hb6⟩
    have HB6 := hide ((unhide HB5).step hb6)
    have HNL6 := hide ((unhide HNL5).below hb6)
    have HRR := hide hr
    clear g0 g1 hb6 hr
    cases r with
    | false =>
      go_wp2_with fail
      go_ret
      exact ⟨rfl, (unhide HB6).bel⟩
    | true =>
      have hRx := (unhide HRR).1 (by trivial)
      have hmV : m = V := by rw [← (unhide HO).1]; exact hRx.1.1
      subst hmV
      have HRX := hide hRx
      have HO6 := hide ((unhide HO).below (unhide HB6).bel)
      clear hRx HRR
      go_wp2_with fail
      go_loopw [49] (fun i wr => ∃ (k q : Nat), i = .int .i64 k ∧ k ≤ m ∧ wr = w6.drewN q ∧ Hid (∀ j, j < k → xs.getD j 0 = ((Pl.order m es).getD j 0 : Nat))) (fun i wr => m - (intOf i).toNat)
      case atStart => exact ⟨0, 0, rfl, by omega, rfl, fun j hj => by omega⟩
      case round =>
        obtain ⟨k, q, rfl, hk, rfl, HK⟩ := hrel
        by_cases hlt : k < m
        · obtain ⟨g, off, ha, hg, d0⟩ := (unhide HO6).2.2 k hlt
          have hNk : Ns w6 la (Pl.order m es).length (toIs (Pl.order m es)) := by rw [unhide HLV]; exact unhide HNL6
          obtain ⟨g', off', ha', hg', d1⟩ := ns_at hNk (i := k) (by rw [unhide HLV]; exact hlt)
          have hle := order_least (unhide HP) (unhide HRX) (i := k) (by rw [unhide HLV]; exact hlt) (unhide HK)
          subst ha
          subst ha'
          obtain ⟨z, hz⟩ : ∃ z, xs.getD k 0 = z := ⟨_, rfl⟩
          obtain ⟨y, hy⟩ : ∃ y, (Pl.order m es).getD k 0 = y := ⟨_, rfl⟩
          rw [hz] at d0 hle
          rw [hy] at d1 hle
          have HZ := hide hz
          have HY := hide hy
          have hlt2 : (k : Int) < (m : Int) := by omega
          clear hz hy hNk
          by_cases hyz : (y : Int) = z
          · have hb : ((y : Int) != z) = false := by simp [hyz]
            have HYZ := hide hyz
            clear hyz
            go_wp2_with fail
            go_quiet (fail)
            go_wp2_with fail
            go_roundw
            case rel =>
              refine ⟨k + 1, _, by go_num, by omega, rfl, fun j hj => ?_⟩
              by_cases hjk : j < k
              · exact unhide HK j hjk
              · obtain rfl : j = k := by omega
                rw [unhide HZ, unhide HY, unhide HYZ]
            case measure => simp [intOf]; omega
          · have hb : ((y : Int) != z) = true := by rw [bne_iff_ne]; exact hyz
            have hlt3 : (y : Int) < z := by omega
            have HYZ := hide hyz
            clear hyz
            go_wp2_with fail
            go_quiet (fail)
            go_wp2_with fail
            go_quiet (fail)
            go_wp2_with fail
            go_ret
            exact ⟨ret_b (by simp), below_draws (below_draws (below_draws (unhide HB6).bel _) _) _⟩
        · obtain rfl : k = m := by omega
          go_wp2_with fail
          go_ret
          exact ⟨rfl, below_draws (unhide HB6).bel _⟩
end Go.Proofs.Ytgbdnpmpkilcoaa

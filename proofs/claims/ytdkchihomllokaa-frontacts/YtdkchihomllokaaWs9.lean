/-
  The walk of FrontSwaps. Conditions: its arguments lie in memory as their readings say.
-/
import Derived.Test.YtdkchihomllokaaOa9
import Derived.Test.YtdkchihomllokaaTw9
namespace Go.Proofs.Ytdkchihomllokaa
open Go.RowKit
set_option linter.unusedVariables false
set_option maxRecDepth 20000

theorem i64_mask (n : Int) (m q : Nat) (hm : (BitVec.ofInt 64 (m : Int)).toNat = 2 ^ q - 1) (hq : 2 ^ q ≤ 65536) (hd : 2 ^ q ∣ 2 ^ 64) : bits .and .i64 n (m : Int) = n % ((2 ^ q : Nat) : Int) := by
  have key : (BitVec.ofInt 64 n &&& BitVec.ofInt 64 (m : Int)).toNat = (n % ((2 ^ 64 : Nat) : Int)).toNat % 2 ^ q := by
    rw [BitVec.toNat_and, BitVec.toNat_ofInt, hm, Nat.and_two_pow_sub_one_eq_mod]
  show IntKind.i64.wrap ((BitVec.ofInt 64 n &&& BitVec.ofInt 64 (m : Int)).toNat : Nat) = n % ((2 ^ q : Nat) : Int)
  have h1 : 0 ≤ n % ((2 ^ 64 : Nat) : Int) := Int.emod_nonneg _ (by decide)
  have h2 : (((n % ((2 ^ 64 : Nat) : Int)).toNat % 2 ^ q : Nat) : Int) = n % ((2 ^ q : Nat) : Int) := by
    rw [Int.natCast_emod, Int.toNat_of_nonneg h1]
    exact Int.emod_emod_of_dvd n (by exact_mod_cast hd)
  have h3 : (n % ((2 ^ 64 : Nat) : Int)).toNat % 2 ^ q < 2 ^ q := Nat.mod_lt _ (Nat.two_pow_pos q)
  rw [key, h2.symm, IntKind.wrap_i64]
  generalize (n % ((2 ^ 64 : Nat) : Int)).toNat % 2 ^ q = z at *
  generalize 2 ^ q = y at *
  omega
theorem i64_and65535 (n : Int) : bits .and .i64 n 65535 = n % 65536 := i64_mask n 65535 16 (by decide) (by decide) (by decide)
theorem idx_any (z : Int) (m : Nat) (hm : 0 < m) : ∃ x : Nat, x < m ∧ (z % 65536).tmod (m : Int) = (x : Int) := by
  have h0 := Int.emod_nonneg z (show (65536 : Int) ≠ 0 by decide)
  refine ⟨(z % 65536).toNat % m, Nat.mod_lt _ hm, ?_⟩
  have : z % 65536 = (((z % 65536).toNat : Nat) : Int) := (Int.toNat_of_nonneg h0).symm
  rw [this, ← Int.ofNat_tmod]
  rfl
theorem Bg.stepB {w wk wk' : World} {x y : Value} {B : Nat} (h : Bg w wk x y) (hB : w.heap.size < B) (hb : Below B wk wk') : Bg w wk' x y :=
  ⟨h.bel.trans (hb.mono (by omega)), by rw [hb.block _ hB]; exact h.gb⟩

/-- the document's Good, and New, of a graph in whatever world -/
def GoodC (w : World) (V : Int) (a : Option Addr) (n cap : Nat) (c : Int) : Prop := ∀ u, Below w.heap.size w u → Calls Try.prog 29 #[.agg #[.int .i64 V, .slice a n cap]] u fun e u' => (∃ p va m k, e = .returned (.tuple #[.int .i64 c, .int .i64 p, .slice va m k])) ∧ Below u.heap.size u u'

set_option maxHeartbeats 4000000 in
/-- a graph with a fault -/
theorem swaps_bad (w : World) (V : Int) (a : Option Addr) (n cap : Nat) (c : Int) (hc : c ≠ 0) (hg : GoodC w V a n cap c) (ac : Option Addr) (an acap : Nat) (i k : Int) :
    Calls Try.prog 6 #[.agg #[.int .i64 V, .slice a n cap], .slice ac an acap, .int .i64 i, .int .i64 k] w fun e w' => e = .returned (.bool true) ∧ Below w.heap.size w w' := by
  have HG := hide hg
  have HB0 := hide (Bg.start w (.int .i64 V) (.slice a n cap))
  have HC := hide (show (c == 0) = false by simp [hc])
  clear hg hc
  go_enter Try.func6, Try.ntmps6
  go_wp2_with fail
  refine (speaks_any _).mono ?_
  rintro e w1 ⟨rfl, hb1⟩
  have HB1 := hide ((unhide HB0).step hb1)
  obtain ⟨g0, g1⟩ := (unhide HB1).cells
  clear hb1 HB0
  go_wp2_with fail
  refine (good_is w1 V a n cap c (fun u hu => unhide HG u ((unhide HB1).bel.trans (hu.mono (unhide HB1).bel.size)))).mono ?_
  rintro e w2 ⟨rfl, hb2⟩
  rw [unhide HC]
  have HB2 := hide ((unhide HB1).step hb2)
  clear hb2 g0 g1 HB1
  go_wp2_with fail
  go_ret
  exact ⟨rfl, (unhide HB2).bel⟩

set_option maxHeartbeats 4000000 in
/-- too many acts -/
theorem swaps_many (w : World) (V : Int) (a : Option Addr) (n cap : Nat) (hg : GoodC w V a n cap 0) (ac : Option Addr) (an acap : Nat) (han : 80 < an) (i k : Int) :
    Calls Try.prog 6 #[.agg #[.int .i64 V, .slice a n cap], .slice ac an acap, .int .i64 i, .int .i64 k] w fun e w' => e = .returned (.bool true) ∧ Below w.heap.size w w' := by
  have HG := hide hg
  have HB0 := hide (Bg.start w (.int .i64 V) (.slice a n cap))
  have hd : decide ((80 : Int) < (an : Int)) = true := by simp; omega
  have han2 : (80 : Int) < (an : Int) := by omega
  clear hg
  go_enter Try.func6, Try.ntmps6
  go_wp2_with fail
  refine (speaks_any _).mono ?_
  rintro e w1 ⟨rfl, hb1⟩
  have HB1 := hide ((unhide HB0).step hb1)
  obtain ⟨g0, g1⟩ := (unhide HB1).cells
  clear hb1 HB0
  go_wp2_with fail
  refine (good_is w1 V a n cap 0 (fun u hu => unhide HG u ((unhide HB1).bel.trans (hu.mono (unhide HB1).bel.size)))).mono ?_
  rintro e w2 ⟨rfl, hb2⟩
  rw [show ((0 : Int) == 0) = true from rfl]
  have HB2 := hide ((unhide HB1).step hb2)
  clear hb2 g0 g1 HB1
  go_wp2_with fail
  go_ret
  exact ⟨rfl, (unhide HB2).bel⟩

theorem whole_is {V : Nat} {es : List (Nat × Nat)} {src : Nat} {row : List It} {pl : List Nat} (hI : Inv V es src row pl) (hp : Plain V es) (hsrc : bare (Pl.ins es) V = [src]) : ∀ bn ∈ wholeF V es src row pl, ∃ y : Nat, bn.head = (y : Int) ∧ y < V ∧ ReadyAt V es src row pl y := by
  intro bn hb
  by_cases hpl : pl = []
  · subst hpl
    have : bn = ⟨src, 0, 0, 0⟩ := by unfold wholeF at hb; simpa using hb
    subst this
    exact ⟨src, rfl, (bare_src hsrc).1, .inl ⟨rfl, rfl⟩⟩
  · obtain ⟨y, hy, hr, _⟩ := whole_ready hI hp hb hpl
    exact ⟨y, hy, hr.lt, .inr ⟨hpl, _, _, _, hr⟩⟩

set_option maxHeartbeats 8000000 in
theorem swaps_good (w : World) (V : Nat) (a : Option Addr) (cap : Nat) (es : List (Nat × Nat)) (h : Es 0 w a es.length (toI es)) (hno : a = none → es.length = 0 ∧ cap = 0) (hcap : es.length ≤ cap) (hp : Plain V es) (hok : IsFault V es 0 0 []) (hg : GoodC w V a es.length cap 0) (src : Nat) (hsrc : bare (Pl.ins es) V = [src])
    (ac : Option Addr) (an acap : Nat) (hac : Acs w ac an) (han : an ≤ 80) (i k : Int) :
    Calls Try.prog 6 #[.agg #[.int .i64 V, .slice a es.length cap], .slice ac an acap, .int .i64 i, .int .i64 k] w fun e w' => e = .returned (.bool true) ∧ Below w.heap.size w w' := by
  have HG := hide hg
  have HE := hide h
  have HP := hide hp
  have HSRC := hide hsrc
  have HAC := hide hac
  have HNEW := hide (fun (u : World) (hu : Below w.heap.size w u) => new_good u V a cap es (h.below hu) hno hcap hp hok)
  obtain ⟨n, hn⟩ : ∃ n, es.length = n := ⟨_, rfl⟩
  have HENDS := hide (fun (u : World) (hu : Below w.heap.size w u) (x : Nat) => (show Calls Try.prog 24 #[.agg #[.int .i64 (V : Nat), .slice a n cap], .int .i64 (x : Nat), .bool true] u fun e u' => (∃ v, e = .returned v ∧ u'.ownsRow u.heap.size 3 1 v (Pl.outs es x).length (zcells (toIs (Pl.outs es x)))) ∧ Below u.heap.size u u' from by
    have := refEnds_any u V a cap es (h.below hu) hp.n128 (x : Nat) true
    rw [ends_out, hn] at this
    exact this))
  have HN := hide hn
  rw [hn] at HG HNEW ⊢
  have HB0 := hide (Bg.start w (.int .i64 (V : Nat)) (.slice a n cap))
  have hd : decide ((80 : Int) < (an : Int)) = false := by simp; omega
  have han2 : ¬ (80 : Int) < (an : Int) := by omega
  clear hg h hno hcap hp hok hac hsrc hn
  go_enter Try.func6, Try.ntmps6
  go_wp2_with fail
  refine (speaks_any _).mono ?_
  rintro e w1 ⟨rfl, hb1⟩
  have HB1 := hide ((unhide HB0).step hb1)
  obtain ⟨g0, g1⟩ := (unhide HB1).cells
  clear hb1 HB0
  go_wp2_with fail
  refine (good_is w1 V a n cap 0 (fun u hu => unhide HG u ((unhide HB1).bel.trans (hu.mono (unhide HB1).bel.size)))).mono ?_
  rintro e w2 ⟨rfl, hb2⟩
  rw [show ((0 : Int) == 0) = true from rfl]
  have HB2 := hide ((unhide HB1).step hb2)
  clear hb2 g0 g1 HB1
  obtain ⟨g0, g1⟩ := (unhide HB2).cells
  go_wp2_with fail
  refine (unhide HNEW w2 (unhide HB2).bel).mono ?_
  rintro e w3 ⟨⟨b, s, rfl, hlo, hF3, hS3⟩, hb3⟩
  obtain ⟨N, hNe⟩ : ∃ N, w3.heap.size = N := ⟨_, rfl⟩
  rw [hNe] at hF3 hS3
  have hwb : w.heap.size + 1 ≤ b := by have := (unhide HB2).lt; omega
  have hbN : b < N := by rw [← hNe]; exact hF3.lt
  have HWB := hide (show w.heap.size + 1 ≤ min b N ∧ b < N by omega)
  have HF3 := hide (show Fy N b w3 b V es s none (.slice none 0 0) [] [] from ⟨hS3, ⟨_, hF3⟩, fun _ => rfl, .inl rfl⟩)
  have HB3 := hide ((unhide HB2).step hb3)
  have HI3 := hide (Inv.start V es src)
  clear hlo hF3 hS3 hNe hwb hbN hb3 HNEW HB2 g0 g1 HG
  go_wp2_with fail
  go_loopw [47] (fun i wr => ∃ (q : Nat) (ra : Option Addr) (pv : Value) (row : List It) (pl : List Nat), i = .int .i64 q ∧ q ≤ an ∧ Hid (Inv V es src row pl) ∧ Hid (Fy N b wr b V es s ra pv row pl) ∧ Hid (Bg w wr (.int .i64 (V : Nat)) (.slice a n cap))) (fun i wr => an - (intOf i).toNat)
  case atStart => exact ⟨0, none, _, [], [], rfl, by omega, HI3, HF3, HB3⟩
  case round =>
    obtain ⟨q, ra, pv, row, pl, rfl, hq, HI, HF, HBr⟩ := hrel
    by_cases hlt : q < an
    · obtain ⟨g, off, x, ak, lk, ck, zs, hae, hA⟩ := unhide HAC q hlt
      subst hae
      have hAr := hA.below (unhide HBr).bel (Nat.le_refl _)
      have d0 := hAr.c0
      have d1 := hAr.c1
      have hqa : (q : Int) < (an : Int) := by omega
      have hwq : IntKind.i64.wrap ((q : Int) + 1) = (q : Int) + 1 := by rw [IntKind.wrap_i64]; omega
      have hba := b_al (w := wr) (.cells #[.int .i64 x, .slice ak lk ck] 38)
      have C := hide (place_any (wr.alloc (.cells #[.int .i64 x, .slice ak lk ck] 38)) N b b V es src s ra pv row pl ((unhide HF).below hba) (unhide HP) (unhide HSRC) (unhide HI) x ak lk ck zs (hAr.ns.below hba) hA.no hA.sz (fun g' off' he hl0 h => by
        obtain ⟨rc, hf⟩ := (unhide HF).fb
        have hw := unhide HWB
        obtain ⟨g2, off2, ha2, hg2, _⟩ := hA.ns.2.2 0 (by omega)
        rw [he] at ha2
        cases ha2
        rcases h with h | h
        · omega
        · have := (hf.own.lt _ h).1; omega))
      have HBa := hide ((unhide HBr).step hba)
      clear hA hAr hba
      go_wp2_with fail
      refine (unhide C).mono ?_
      rintro e w5 ⟨code, ends, row2, pl2, v5, ra5, pv5, hP, rfl, hov, hF', _, _, _, hbz⟩
      have HI5 := hide (hP.inv (unhide HI) (unhide HP) (unhide HSRC))
      have HF5 := hide hF'
      have HB5 := hide ((unhide HBa).stepB (by have := unhide HWB; omega) hbz.bel)
      clear C hP hov hF' hbz
      go_wp2_with fail
      go_roundw
      case rel => exact ⟨q + 1, ra5, pv5, row2, pl2, by go_num, by omega, HI5, HF5, HB5⟩
      case measure => simp [intOf]; omega
    · obtain rfl : q = an := by omega
      obtain ⟨rc, hf⟩ := (unhide HF).fb
      have hD := (unhide HF).sn.sd
      have hR := (unhide HI).rowOk (unhide HP)
      have C := hide (ready_any wr N b V es s ra rc row pv pl hf hD (unhide HP) src (unhide HSRC) hR)
      have HL := hide (show ∀ z ∈ srtZ ((wholeF V es src row pl).map Bn.head), ∃ y : Nat, z = (y : Int) ∧ y < V ∧ ReadyAt V es src row pl y from fun z hz => by
        obtain ⟨bn, hb, rfl⟩ := List.mem_map.1 ((srtZ_perm _).mem_iff.1 hz)
        exact whole_is (unhide HI) (unhide HP) (unhide HSRC) bn hb)
      have HL2 := hide (show ((wholeF V es src row pl).map Bn.head).length = (srtZ ((wholeF V es src row pl).map Bn.head)).length from (srtZ_perm _).length_eq.symm)
      have HL3 := hide (show 2 ≤ ((wholeF V es src row pl).map Bn.head).length → pl ≠ [] from fun h2 e => by
        subst e
        simp [wholeF] at h2)
      have HL4 := hide (show ((wholeF V es src row pl).map Bn.head).length ≤ 500 by rw [List.length_map]; have := wholeF_len V es src row pl; have := hf.small.1; omega)
      generalize srtZ ((wholeF V es src row pl).map Bn.head) = rl at C HL HL2
      generalize ((wholeF V es src row pl).map Bn.head).length = rn at C HL2 HL3 HL4
      clear hf hD hR
      go_wp2_with fail
      refine (unhide C).mono ?_
      rintro e w5 ⟨⟨v, rfl, ho⟩, hb5⟩
      obtain ⟨va, vc, hv, _, hN⟩ := ns_of_owns ho (by have := unhide HL4; omega)
      subst hv
      have HF5 := hide ((unhide HF).below hb5)
      have HB5 := hide ((unhide HBr).step hb5)
      have HNS := hide hN
      clear C ho hb5 hN HF HBr
      by_cases h2 : rn < 2
      · have h2' : (rn : Int) < 2 := by omega
        go_wp2_with fail
        go_ret
        exact ⟨rfl, (unhide HB5).bel⟩
      have h2' : ¬ (rn : Int) < 2 := by omega
      obtain ⟨xi, hxi, hxT⟩ := idx_any i rn (by omega)
      obtain ⟨yi, hyi, hyT⟩ := idx_any k rn (by omega)
      have HXT := hide hxT
      have HYT := hide hyT
      have hxA := i64_and65535 i
      have hyA := i64_and65535 k
      have hxW : IntKind.i64.wrap (xi : Int) = (xi : Int) := by have := unhide HL4; rw [IntKind.wrap_i64]; omega
      have hyW : IntKind.i64.wrap (yi : Int) = (yi : Int) := by have := unhide HL4; rw [IntKind.wrap_i64]; omega
      have hxr : (xi : Int) < (rn : Int) := by omega
      have hyr : (yi : Int) < (rn : Int) := by omega
      have hr0 : ¬ rn = 0 := by omega
      obtain ⟨gr, offr, hra, hgr, c0⟩ := (unhide HNS).2.2 xi hxi
      obtain ⟨gr2, offr2, hra2, _, c1⟩ := (unhide HNS).2.2 yi hyi
      rw [hra] at hra2
      cases hra2
      have hmem : ∀ q, q < rn → rl.getD q 0 ∈ rl := fun q hq => by
        rw [List.getD_eq_getElem?_getD, List.getElem?_eq_getElem (by rw [← unhide HL2]; exact hq)]
        exact List.getElem_mem _
      obtain ⟨x, hx, hxV, hxR⟩ := unhide HL _ (hmem xi hxi)
      obtain ⟨y, hy, hyV, hyR⟩ := unhide HL _ (hmem yi hyi)
      rw [hx] at c0
      rw [hy] at c1
      have HXR := hide hxR
      have HYR := hide hyR
      have HPL := hide (unhide HL3 (by omega))
      subst hra
      clear hmem hx hy hxR hyR HL HL2 HL3 HNS
      go_upto_region 16 with fail
      go_quiet (fail)
      obtain ⟨w6, hw6⟩ : ∃ w6, w5.drewN nq = w6 := ⟨_, rfl⟩
      have hb56 : Below w5.heap.size w5 w6 := by subst hw6; exact below_draws (Below.refl _ _) _
      rw [hw6]
      have HF6 := hide ((unhide HF5).below hb56)
      have HB6 := hide ((unhide HB5).step hb56)
      clear hw6 hb56 HF5 HB5 hxA hyA hxW hyW c0 c1 hgr h2' hr0 hxr hyr hxT hyT HXT HYT
      by_cases hxy : x = y
      · subst hxy
        have hxx : ((x : Int) == (x : Int)) = true := by simp
        go_wp2_with fail
        go_ret
        exact ⟨rfl, (unhide HB6).bel⟩
      have hxy' : ((x : Int) == (y : Int)) = false := by rw [beq_eq_false_iff_ne]; omega
      -- what is ready, and what comes of it
      obtain ⟨A1, Y1, C1, hr1⟩ : ∃ A Y C, Rdy V es row x A Y C := by
        rcases unhide HXR with ⟨h, _⟩ | ⟨_, h⟩
        · exact absurd h (unhide HPL)
        · exact h
      obtain ⟨A2, Y2, C2, hr2⟩ : ∃ A Y C, Rdy V es row y A Y C := by
        rcases unhide HYR with ⟨h, _⟩ | ⟨_, h⟩
        · exact absurd h (unhide HPL)
        · exact h
      obtain ⟨row12, ⟨A12, C12, hr12, he12⟩, ⟨A21, C21, hr21, he21⟩⟩ := swap_rows (unhide HI) hr1 hr2 hxy (List.Perm.refl (Pl.outs es x)) (List.Perm.refl (Pl.outs es y))
      have HR1 := hide hr1
      have HR2 := hide hr2
      have HR12 := hide hr12
      have HR21 := hide hr21
      have HE12 := hide he12
      have HE21 := hide he21
      have HIx := hide ((unhide HI).place (unhide HP) (unhide HPL) hr1 (List.Perm.refl (Pl.outs es x)))
      have HIy := hide ((unhide HI).place (unhide HP) (unhide HPL) hr2 (List.Perm.refl (Pl.outs es y)))
      clear hr1 hr2 hr12 hr21 he12 he21 HXR HYR hxy
      obtain ⟨rc6, hf6⟩ := (unhide HF6).fb
      obtain ⟨z6, hz6⟩ : ∃ z6, w6.heap.size = z6 := ⟨_, rfl⟩
      have hwb := unhide HWB
      have HBD := hide (show b < z6 ∧ (∀ g off, ra = some ⟨g, off, none⟩ → g < z6) ∧ (∀ g, pv.ownBlock = some g → g < z6) ∧ N ≤ z6 ∧ w.heap.size < z6 from by
        refine ⟨by have := hf6.lt; omega, fun g off he => ?_, fun g hg => by have := (hf6.own.lt g hg).2; omega, by have := (unhide HF6).sn.1; omega, by have := (unhide HB6).lt; omega⟩
        by_cases hr : row = []
        · rw [(unhide HF6).rr hr] at he; cases he
        · have := hf6.rlt hr g off he; omega)
      have CL := hide (fclone_any w6 N b V s ra rc6 row pv pl hf6 (by have := unhide HBD; omega) (unhide HF6).rr)
      have HZ6 := hide hz6
      clear hf6 hwb hz6
      go_wp2_with fail
      refine (unhide CL).mono ?_
      rintro e w7 ⟨⟨rh, rch, ph, rfl, hfh, hrrh, hrah, hpvh⟩, hb7⟩
      rw [unhide HZ6] at hfh hrah hpvh hb7 ⊢
      obtain ⟨z7, hz7⟩ : ∃ z7, w7.heap.size = z7 := ⟨_, rfl⟩
      have HF7 := hide ((unhide HF6).below (by rw [unhide HZ6]; exact hb7))
      have HB7 := hide ((unhide HB6).step (by rw [unhide HZ6]; exact hb7))
      have HH7 := hide (show Fy N b w7 z6 V es s rh ph row pl from ⟨(unhide HF7).sn, ⟨rch, hfh⟩, hrrh, .inr (unhide HBD).2.2.2.1⟩)
      have HT7 := hide (show T1 N b V es s z6 z7 w7 ra pv row pl rh ph row pl [] from
        ⟨unhide HF7, unhide HH7, ⟨(unhide HBD).1, by have := hfh.lt; omega, by omega, (unhide HBD).2.2.2.1⟩, fun g off he => .inl ((unhide HBD).2.1 g off he), fun g hg => .inl ((unhide HBD).2.2.1 g hg),
          fun g off he => ⟨hrah g off he, by have := (unhide HH7).up.2.1 g off he; omega⟩, fun g hg => ⟨hpvh g hg, by have := (unhide HH7).up.2.2 g hg; omega⟩, fun p hp => by simp at hp⟩)
      obtain ⟨k0, k1⟩ := (unhide HB7).cells
      clear CL hfh hrrh hrah hpvh hb7 HF6 HB6 HF7 HH7 hz7
      go_wp2_with fail
      refine (unhide HENDS w7 (unhide HB7).bel x).mono ?_
      rintro e w8 ⟨⟨v, rfl, ho⟩, hb⟩
      obtain ⟨la, ma, hv, _, hN⟩ := ns_of_owns ho (by have := Pl.sel_len es (fun e => e.1 == x) es.length; have := (unhide HP).n128; unfold Pl.outs; omega)
      subst hv
      have hlo : ∀ g off, la = some ⟨g, off, none⟩ → 0 < (Pl.outs es x).length → w7.heap.size ≤ g := fun g off he h0 => by
        rcases ho.2 with ⟨hv, h0'⟩ | ⟨g', cap', cur, hv, hb', _⟩
        · omega
        · rw [he] at hv; simp only [Value.slice.injEq, Option.some.injEq, Addr.mk.injEq] at hv; omega
      have hno : la = none → (Pl.outs es x).length = 0 ∧ ma = 0 := fun he => by
        rcases ho.2 with ⟨hv, h0'⟩ | ⟨g', cap', cur, hv, hb', _⟩
        · simp only [Value.slice.injEq] at hv; exact ⟨h0', hv.2.2⟩
        · rw [he] at hv; simp at hv
      have HT8 := hide ((unhide HT7).below hb)
      have HB8 := hide ((unhide HB7).step hb)
      have hup := (unhide HT7).f.up
      have CP := hide (place_any w8 N b b V es src s _ pv _ _ (unhide HT8).f (unhide HP) (unhide HSRC) (unhide HI) (x : Nat) la (Pl.outs es x).length ma (toIs (Pl.outs es x)) hN hno (by have := Pl.sel_len es (fun e => e.1 == x) es.length; have := (unhide HP).n128; unfold Pl.outs; omega) (fun g off he h0 h => by
        have h1 := hlo g off he h0
        rcases h with h | h
        · omega
        · have := (hup.2.2 g h).2; omega))
      obtain ⟨ql, hql⟩ : ∃ ql, (Pl.outs es x).length = ql := ⟨_, rfl⟩
      rw [hql] at CP ⊢
      clear hN hno hlo hup hql ho hb HT7 HB7 k0 k1
      go_wp2_with fail
      refine (unhide CP).mono ?_
      rintro e w9 hst
      obtain ⟨code, endsv, row2, pl2, va, ra, pa, hP, rfl, ⟨vaa, vca, hvs⟩, hT, hbel⟩ := (unhide HT8).step hst
      obtain ⟨rfl, he0, rfl, rfl⟩ := hP.ready (unhide HPL) (unhide HR1) (srtZ_same (outs_pw es x))
      replace he0 := he0.symm
      subst he0
      subst hvs
      have HT9 := hide hT
      have HB9 := hide ((unhide HB8).stepB (by have := unhide HWB; have := unhide HBD; omega) hbel)
      obtain ⟨k0, k1⟩ := (unhide HB9).cells
      clear CP hst hP hT hbel HT8 HB8
      go_wp2_with fail
      refine (unhide HENDS w9 (unhide HB9).bel y).mono ?_
      rintro e w10 ⟨⟨v, rfl, ho⟩, hb⟩
      obtain ⟨lb, mb, hv, _, hN⟩ := ns_of_owns ho (by have := Pl.sel_len es (fun e => e.1 == y) es.length; have := (unhide HP).n128; unfold Pl.outs; omega)
      subst hv
      have hlo : ∀ g off, lb = some ⟨g, off, none⟩ → 0 < (Pl.outs es y).length → w9.heap.size ≤ g := fun g off he h0 => by
        rcases ho.2 with ⟨hv, h0'⟩ | ⟨g', cap', cur, hv, hb', _⟩
        · omega
        · rw [he] at hv; simp only [Value.slice.injEq, Option.some.injEq, Addr.mk.injEq] at hv; omega
      have hno : lb = none → (Pl.outs es y).length = 0 ∧ mb = 0 := fun he => by
        rcases ho.2 with ⟨hv, h0'⟩ | ⟨g', cap', cur, hv, hb', _⟩
        · simp only [Value.slice.injEq] at hv; exact ⟨h0', hv.2.2⟩
        · rw [he] at hv; simp at hv
      have HT10 := hide ((unhide HT9).below hb)
      have HB10 := hide ((unhide HB9).step hb)
      have hup := (unhide HT9).f.up
      have CP := hide (place_any w10 N b b V es src s _ pa _ _ (unhide HT10).f (unhide HP) (unhide HSRC) (unhide HIx) (y : Nat) lb (Pl.outs es y).length mb (toIs (Pl.outs es y)) hN hno (by have := Pl.sel_len es (fun e => e.1 == y) es.length; have := (unhide HP).n128; unfold Pl.outs; omega) (fun g off he h0 h => by
        have h1 := hlo g off he h0
        rcases h with h | h
        · omega
        · have := (hup.2.2 g h).2; omega))
      obtain ⟨ql, hql⟩ : ∃ ql, (Pl.outs es y).length = ql := ⟨_, rfl⟩
      rw [hql] at CP ⊢
      clear hN hno hlo hup hql ho hb HT9 HB9 k0 k1
      go_wp2_with fail
      refine (unhide CP).mono ?_
      rintro e w11 hst
      obtain ⟨code, endsv, row2, pl2, vb, rb, pb, hP, rfl, ⟨vab, vcb, hvs⟩, hT, hbel⟩ := (unhide HT10).step hst
      obtain ⟨rfl, he0, rfl, rfl⟩ := hP.ready (by simp) (unhide HR12) (srtZ_same (outs_pw es y))
      replace he0 := he0.symm
      subst he0
      subst hvs
      have HT11 := hide hT
      have HB11 := hide ((unhide HB10).stepB (by have := unhide HWB; have := unhide HBD; omega) hbel)
      obtain ⟨k0, k1⟩ := (unhide HB11).cells
      clear CP hst hP hT hbel HT10 HB10
      have HT11b := hide (unhide HT11).turn
      clear HT11
      have HT11 := HT11b
      clear HT11b
      go_wp2_with fail
      refine (unhide HENDS w11 (unhide HB11).bel y).mono ?_
      rintro e w12 ⟨⟨v, rfl, ho⟩, hb⟩
      obtain ⟨lc, mc, hv, _, hN⟩ := ns_of_owns ho (by have := Pl.sel_len es (fun e => e.1 == y) es.length; have := (unhide HP).n128; unfold Pl.outs; omega)
      subst hv
      have hlo : ∀ g off, lc = some ⟨g, off, none⟩ → 0 < (Pl.outs es y).length → w11.heap.size ≤ g := fun g off he h0 => by
        rcases ho.2 with ⟨hv, h0'⟩ | ⟨g', cap', cur, hv, hb', _⟩
        · omega
        · rw [he] at hv; simp only [Value.slice.injEq, Option.some.injEq, Addr.mk.injEq] at hv; omega
      have hno : lc = none → (Pl.outs es y).length = 0 ∧ mc = 0 := fun he => by
        rcases ho.2 with ⟨hv, h0'⟩ | ⟨g', cap', cur, hv, hb', _⟩
        · simp only [Value.slice.injEq] at hv; exact ⟨h0', hv.2.2⟩
        · rw [he] at hv; simp at hv
      have HT12 := hide ((unhide HT11).below hb)
      have HB12 := hide ((unhide HB11).step hb)
      have hup := (unhide HT11).h.up
      have CP := hide (place_any w12 N b z6 V es src s _ ph _ _ (unhide HT12).h (unhide HP) (unhide HSRC) (unhide HI) (y : Nat) lc (Pl.outs es y).length mc (toIs (Pl.outs es y)) hN hno (by have := Pl.sel_len es (fun e => e.1 == y) es.length; have := (unhide HP).n128; unfold Pl.outs; omega) (fun g off he h0 h => by
        have h1 := hlo g off he h0
        rcases h with h | h
        · omega
        · have := (hup.2.2 g h).2; omega))
      obtain ⟨ql, hql⟩ : ∃ ql, (Pl.outs es y).length = ql := ⟨_, rfl⟩
      rw [hql] at CP ⊢
      clear hN hno hlo hup hql ho hb HT11 HB11 k0 k1
      go_wp2_with fail
      refine (unhide CP).mono ?_
      rintro e w13 hst
      obtain ⟨code, endsv, row2, pl2, vc, rc, pc, hP, rfl, ⟨vac, vcc, hvs⟩, hT, hbel⟩ := (unhide HT12).step hst
      obtain ⟨rfl, he0, rfl, rfl⟩ := hP.ready (unhide HPL) (unhide HR2) (srtZ_same (outs_pw es y))
      replace he0 := he0.symm
      subst he0
      subst hvs
      have HT13 := hide hT
      have HB13 := hide ((unhide HB12).stepB (by have := unhide HWB; have := unhide HBD; omega) hbel)
      obtain ⟨k0, k1⟩ := (unhide HB13).cells
      clear CP hst hP hT hbel HT12 HB12
      go_wp2_with fail
      refine (unhide HENDS w13 (unhide HB13).bel x).mono ?_
      rintro e w14 ⟨⟨v, rfl, ho⟩, hb⟩
      obtain ⟨ld, md, hv, _, hN⟩ := ns_of_owns ho (by have := Pl.sel_len es (fun e => e.1 == x) es.length; have := (unhide HP).n128; unfold Pl.outs; omega)
      subst hv
      have hlo : ∀ g off, ld = some ⟨g, off, none⟩ → 0 < (Pl.outs es x).length → w13.heap.size ≤ g := fun g off he h0 => by
        rcases ho.2 with ⟨hv, h0'⟩ | ⟨g', cap', cur, hv, hb', _⟩
        · omega
        · rw [he] at hv; simp only [Value.slice.injEq, Option.some.injEq, Addr.mk.injEq] at hv; omega
      have hno : ld = none → (Pl.outs es x).length = 0 ∧ md = 0 := fun he => by
        rcases ho.2 with ⟨hv, h0'⟩ | ⟨g', cap', cur, hv, hb', _⟩
        · simp only [Value.slice.injEq] at hv; exact ⟨h0', hv.2.2⟩
        · rw [he] at hv; simp at hv
      have HT14 := hide ((unhide HT13).below hb)
      have HB14 := hide ((unhide HB13).step hb)
      have hup := (unhide HT13).h.up
      have CP := hide (place_any w14 N b z6 V es src s _ pc _ _ (unhide HT14).h (unhide HP) (unhide HSRC) (unhide HIy) (x : Nat) ld (Pl.outs es x).length md (toIs (Pl.outs es x)) hN hno (by have := Pl.sel_len es (fun e => e.1 == x) es.length; have := (unhide HP).n128; unfold Pl.outs; omega) (fun g off he h0 h => by
        have h1 := hlo g off he h0
        rcases h with h | h
        · omega
        · have := (hup.2.2 g h).2; omega))
      obtain ⟨ql, hql⟩ : ∃ ql, (Pl.outs es x).length = ql := ⟨_, rfl⟩
      rw [hql] at CP ⊢
      clear hN hno hlo hup hql ho hb HT13 HB13 k0 k1
      go_wp2_with fail
      refine (unhide CP).mono ?_
      rintro e w15 hst
      obtain ⟨code, endsv, row2, pl2, vd, rd, pd, hP, rfl, ⟨vad, vcd, hvs⟩, hT, hbel⟩ := (unhide HT14).step hst
      obtain ⟨rfl, he0, rfl, rfl⟩ := hP.ready (by simp) (unhide HR21) (srtZ_same (outs_pw es x))
      replace he0 := he0.symm
      subst he0
      subst hvs
      have HT15 := hide hT
      have HB15 := hide ((unhide HB14).stepB (by have := unhide HWB; have := unhide HBD; omega) hbel)
      obtain ⟨k0, k1⟩ := (unhide HB15).cells
      clear CP hst hP hT hbel HT14 HB14
      go_wp2_with fail
      have hY1 : Y1.length ≤ 400 := by have h1 := congrArg List.length (unhide HR1).eq; have h2 := (unhide HI).rlen; have h3 := (unhide HI).plen; have h4 := (unhide HP).n128; have h5 := (unhide HP).v64; simp at h1; omega
      have hY2 : Y2.length ≤ 400 := by have h1 := congrArg List.length (unhide HR2).eq; have h2 := (unhide HI).rlen; have h3 := (unhide HI).plen; have h4 := (unhide HP).n128; have h5 := (unhide HP).v64; simp at h1; omega
      have HB16 := hide ((unhide HB15).step b_dr)
      have hT := (unhide HT15).below b_dr
      rw [← unhide HE12, ← unhide HE21] at hT
      have hva := (hT.vl (_, Y1) (by simp; exact .inl rfl)).1
      have hvb := (hT.vl (.slice vab Y2.length vcb, Y2) (by simp)).1
      have hvc := (hT.vl (.slice vac Y2.length vcc, Y2) (by simp)).1
      have hvd := (hT.vl (.slice vad Y1.length vcd, Y1) (by simp)).1
      have HVA := hide hva
      have HVB := hide hvb
      have HVC := hide hvc
      have HVD := hide hvd
      have HFF := hide hT.f
      have HHH := hide hT.h
      have hS : True := trivial
      refine wp_region_held_drew (S := fun u => True) (by kernel_rfl) trivial (fun hS0 => ?_)
      clear HT15 hT hva hvb hvc hvd k0 k1 HB15
      generalize w15.drew = w16 at HB16 HVA HVB HVC HVD HFF HHH ⊢
      refine wpAnyH_take (i := 0) (v := ?_) rfl (by kernel_rfl) (by kernel_rfl) (by kernel_rfl) (fun _ _ _ h => h) (Or.inl ⟨by rfl, ?_⟩) hS0 ?_
      rotate_left
      · intro u hu; (try dsimp only at hu); go_simp; try with_reducible rfl
      simp only [Act.put, List.getElem_toArray, List.getElem_cons_zero, List.setIfInBounds_toArray, List.set_cons_zero, List.set_cons_succ]
      refine wpAnyH_take (i := 1) (v := ?_) rfl (by kernel_rfl) (by kernel_rfl) (by kernel_rfl) (fun _ _ _ h => h) (Or.inl ⟨by rfl, ?_⟩) hS0 ?_
      rotate_left
      · intro u hu; (try dsimp only at hu); go_simp; try with_reducible rfl
      simp only [Act.put, List.getElem_toArray, List.getElem_cons_zero, List.getElem_cons_succ, List.setIfInBounds_toArray, List.set_cons_zero, List.set_cons_succ]
      refine wpAnyH_take (i := 2) (v := ?_) rfl (by kernel_rfl) (by kernel_rfl) (by kernel_rfl) (fun _ _ _ h => h) (Or.inl ⟨by rfl, ?_⟩) hS0 ?_
      rotate_left
      · intro u hu; (try dsimp only at hu); go_simp; try with_reducible rfl
      simp only [Act.put, List.getElem_toArray, List.getElem_cons_zero, List.getElem_cons_succ, List.setIfInBounds_toArray, List.set_cons_zero, List.set_cons_succ]
      refine wpAnyH_take (i := 3) (v := ?_) rfl (by kernel_rfl) (by kernel_rfl) (by kernel_rfl) (fun _ _ _ h => h) (Or.inl ⟨by rfl, ?_⟩) hS0 ?_
      rotate_left
      · intro u hu; (try dsimp only at hu); go_simp; try with_reducible rfl
      simp only [Act.put, List.getElem_toArray, List.getElem_cons_zero, List.getElem_cons_succ, List.setIfInBounds_toArray, List.set_cons_zero, List.set_cons_succ]
      refine wpAnyH_take (i := 4) (v := ?_) rfl (by kernel_rfl) (by kernel_rfl) (by kernel_rfl) (fun _ _ _ h => h) (Or.inl ⟨by rfl, ?_⟩) hS0 ?_
      rotate_left
      · intro u hu; (try dsimp only at hu); go_simp; try with_reducible rfl
      simp only [Act.put, List.getElem_toArray, List.getElem_cons_zero, List.getElem_cons_succ, List.setIfInBounds_toArray, List.set_cons_zero, List.set_cons_succ]
      refine wpAnyH_take (i := 5) (v := ?_) rfl (by kernel_rfl) (by kernel_rfl) (by kernel_rfl) (fun _ _ _ h => h) (Or.inl ⟨by rfl, ?_⟩) hS0 ?_
      rotate_left
      · intro u hu; (try dsimp only at hu); go_simp; try with_reducible rfl
      simp only [Act.put, List.getElem_toArray, List.getElem_cons_zero, List.getElem_cons_succ, List.setIfInBounds_toArray, List.set_cons_zero, List.set_cons_succ]
      refine wpAnyH_take (i := 6) (v := ?_) rfl (by kernel_rfl) (by kernel_rfl) (by kernel_rfl) (fun _ _ _ h => h) (Or.inl ⟨by rfl, ?_⟩) hS0 ?_
      rotate_left
      · intro u hu; (try dsimp only at hu); go_simp; try with_reducible rfl
      simp only [Act.put, List.getElem_toArray, List.getElem_cons_zero, List.getElem_cons_succ, List.setIfInBounds_toArray, List.set_cons_zero, List.set_cons_succ]
      refine wpAnyH_take (i := 7) (v := ?_) rfl (by kernel_rfl) (by kernel_rfl) (by kernel_rfl) (fun _ _ _ h => h) (Or.inl ⟨by rfl, ?_⟩) hS0 ?_
      rotate_left
      · intro u hu; (try dsimp only at hu); go_simp; try with_reducible rfl
      simp only [Act.put, List.getElem_toArray, List.getElem_cons_zero, List.getElem_cons_succ, List.setIfInBounds_toArray, List.set_cons_zero, List.set_cons_succ]
      refine wpAnyH_take (i := 8) (v := ?_) rfl (by kernel_rfl) (by kernel_rfl) (by kernel_rfl) (fun _ _ _ h => h) (Or.inl ⟨by rfl, ?_⟩) hS0 ?_
      rotate_left
      · intro u hu; (try dsimp only at hu); go_simp; try with_reducible rfl
      simp only [Act.put, List.getElem_toArray, List.getElem_cons_zero, List.getElem_cons_succ, List.setIfInBounds_toArray, List.set_cons_zero, List.set_cons_succ]
      refine wpAnyH_take (i := 9) (v := ?_) rfl (by kernel_rfl) (by kernel_rfl) (by kernel_rfl) (fun _ _ _ h => h) (Or.inl ⟨by rfl, ?_⟩) hS0 ?_
      rotate_left
      · intro u hu; (try dsimp only at hu); go_simp; try with_reducible rfl
      simp only [Act.put, List.getElem_toArray, List.getElem_cons_zero, List.getElem_cons_succ, List.setIfInBounds_toArray, List.set_cons_zero, List.set_cons_succ]
      refine wpAnyH_take (i := 10) (v := ?_) rfl (by kernel_rfl) (by kernel_rfl) (by kernel_rfl) (fun _ _ _ h => h) (Or.inl ⟨by rfl, ?_⟩) hS0 ?_
      rotate_left
      · intro u hu; (try dsimp only at hu); go_simp; try with_reducible rfl
      simp only [Act.put, List.getElem_toArray, List.getElem_cons_zero, List.getElem_cons_succ, List.setIfInBounds_toArray, List.set_cons_zero, List.set_cons_succ]
      refine wpAnyH_take (i := 11) (v := ?_) rfl (by kernel_rfl) (by kernel_rfl) (by kernel_rfl) (fun _ _ _ h => h) (Or.inl ⟨by rfl, ?_⟩) hS0 ?_
      rotate_left
      · intro u hu; (try dsimp only at hu); go_simp; try with_reducible rfl
      simp only [Act.put, List.getElem_toArray, List.getElem_cons_zero, List.getElem_cons_succ, List.setIfInBounds_toArray, List.set_cons_zero, List.set_cons_succ]
      refine wpAnyH_take (i := 12) (v := ?_) rfl (by kernel_rfl) (by kernel_rfl) (by kernel_rfl) (fun _ _ _ h => h) (Or.inl ⟨by rfl, ?_⟩) hS0 ?_
      rotate_left
      · intro u hu; (try dsimp only at hu); go_simp; try with_reducible rfl
      simp only [Act.put, List.getElem_toArray, List.getElem_cons_zero, List.getElem_cons_succ, List.setIfInBounds_toArray, List.set_cons_zero, List.set_cons_succ]
      refine wpAnyH_take (i := 13) (v := ?_) rfl (by kernel_rfl) (by kernel_rfl) (by kernel_rfl) (fun _ _ _ h => h) (Or.inl ⟨by rfl, ?_⟩) hS0 ?_
      rotate_left
      · intro u hu; (try dsimp only at hu); go_simp; try with_reducible rfl
      simp only [Act.put, List.getElem_toArray, List.getElem_cons_zero, List.getElem_cons_succ, List.setIfInBounds_toArray, List.set_cons_zero, List.set_cons_succ]
      refine wpAnyH_take (i := 14) (v := ?_) rfl (by kernel_rfl) (by kernel_rfl) (by kernel_rfl) (fun _ _ _ h => h) (Or.inl ⟨by rfl, ?_⟩) hS0 ?_
      rotate_left
      · intro u hu; (try dsimp only at hu); go_simp; try with_reducible rfl
      simp only [Act.put, List.getElem_toArray, List.getElem_cons_zero, List.getElem_cons_succ, List.setIfInBounds_toArray, List.set_cons_zero, List.set_cons_succ]
      refine wpAnyH_take (i := 15) (v := ?_) rfl (by kernel_rfl) (by kernel_rfl) (by kernel_rfl) (fun _ _ _ h => h) (Or.inl ⟨by rfl, ?_⟩) hS0 ?_
      rotate_left
      · intro u hu; (try dsimp only at hu); go_simp; try with_reducible rfl
      simp only [Act.put, List.getElem_toArray, List.getElem_cons_zero, List.getElem_cons_succ, List.setIfInBounds_toArray, List.set_cons_zero, List.set_cons_succ]
      refine wpAnyH_take (i := 16) (v := ?_) rfl (by kernel_rfl) (by kernel_rfl) (by kernel_rfl) (fun _ _ _ h => h) (Or.inl ⟨by rfl, ?_⟩) hS0 ?_
      rotate_left
      · intro u hu; (try dsimp only at hu); go_simp; try with_reducible rfl
      simp only [Act.put, List.getElem_toArray, List.getElem_cons_zero, List.getElem_cons_succ, List.setIfInBounds_toArray, List.set_cons_zero, List.set_cons_succ]
      refine wpAnyH_ready (rs := [17]) (by kernel_rfl) (by simp) ?_
      refine AllReadyH.cons rfl (fun K hK => ?_) AllReadyH.nil
      go_simp
      refine (sameItems_yes w16 vaa vad vca vcd Y1 ((unhide HVA).is hY1) ((unhide HVD).is hY1)).mono ?_
      rintro e w17 ⟨rfl, hb⟩
      have HVB7 := hide ((unhide HVB).below hb)
      have HVC7 := hide ((unhide HVC).below hb)
      have HF7 := hide ((unhide HFF).below hb)
      have HH7 := hide ((unhide HHH).below hb)
      have HB7 := hide ((unhide HB16).step hb)
      refine hK.out _ _ trivial (fun hS1 => ?_)
      clear hK K hb HVA HVB HVC HVD HFF HHH HB16
      refine wpAnyH_take (i := 18) (v := ?_) rfl (by kernel_rfl) (by kernel_rfl) (by kernel_rfl) (fun _ _ _ h => h) (Or.inl ⟨by rfl, ?_⟩) hS1 ?_
      rotate_left
      · intro u hu; (try dsimp only at hu); go_simp; try with_reducible rfl
      simp only [Act.put, List.getElem_toArray, List.getElem_cons_zero, List.getElem_cons_succ, List.setIfInBounds_toArray, List.set_cons_zero, List.set_cons_succ]
      refine wpAnyH_take (i := 19) (v := ?_) rfl (by kernel_rfl) (by kernel_rfl) (by kernel_rfl) (fun _ _ _ h => h) (Or.inl ⟨by rfl, ?_⟩) hS1 ?_
      rotate_left
      · intro u hu; (try dsimp only at hu); go_simp; try with_reducible rfl
      simp only [Act.put, List.getElem_toArray, List.getElem_cons_zero, List.getElem_cons_succ, List.setIfInBounds_toArray, List.set_cons_zero, List.set_cons_succ]
      refine wpAnyH_take (i := 20) (v := ?_) rfl (by kernel_rfl) (by kernel_rfl) (by kernel_rfl) (fun _ _ _ h => h) (Or.inl ⟨by rfl, ?_⟩) hS1 ?_
      rotate_left
      · intro u hu; (try dsimp only at hu); go_simp; try with_reducible rfl
      simp only [Act.put, List.getElem_toArray, List.getElem_cons_zero, List.getElem_cons_succ, List.setIfInBounds_toArray, List.set_cons_zero, List.set_cons_succ]
      refine wpAnyH_take (i := 21) (v := ?_) rfl (by kernel_rfl) (by kernel_rfl) (by kernel_rfl) (fun _ _ _ h => h) (Or.inl ⟨by rfl, ?_⟩) hS1 ?_
      rotate_left
      · intro u hu; (try dsimp only at hu); go_simp; try with_reducible rfl
      simp only [Act.put, List.getElem_toArray, List.getElem_cons_zero, List.getElem_cons_succ, List.setIfInBounds_toArray, List.set_cons_zero, List.set_cons_succ]
      refine wpAnyH_ready (rs := [22]) (by kernel_rfl) (by simp) ?_
      refine AllReadyH.cons rfl (fun K hK => ?_) AllReadyH.nil
      go_simp
      refine (sameItems_yes w17 vab vac vcb vcc Y2 ((unhide HVB7).is hY2) ((unhide HVC7).is hY2)).mono ?_
      rintro e w18 ⟨rfl, hb⟩
      have HF8 := hide ((unhide HF7).below hb)
      have HH8 := hide ((unhide HH7).below hb)
      have HB8 := hide ((unhide HB7).step hb)
      refine hK.out _ _ trivial (fun hS2 => ?_)
      clear hK K hb HVB7 HVC7 HF7 HH7 HB7
      refine wpAnyH_take (i := 23) (v := ?_) rfl (by kernel_rfl) (by kernel_rfl) (by kernel_rfl) (fun _ _ _ h => h) (Or.inl ⟨by rfl, ?_⟩) hS2 ?_
      rotate_left
      · intro u hu; (try dsimp only at hu); go_simp; try with_reducible rfl
      simp only [Act.put, List.getElem_toArray, List.getElem_cons_zero, List.getElem_cons_succ, List.setIfInBounds_toArray, List.set_cons_zero, List.set_cons_succ]
      refine wpAnyH_take (i := 24) (v := ?_) rfl (by kernel_rfl) (by kernel_rfl) (by kernel_rfl) (fun _ _ _ h => h) (Or.inl ⟨by rfl, ?_⟩) hS2 ?_
      rotate_left
      · intro u hu; (try dsimp only at hu); go_simp; try with_reducible rfl
      simp only [Act.put, List.getElem_toArray, List.getElem_cons_zero, List.getElem_cons_succ, List.setIfInBounds_toArray, List.set_cons_zero, List.set_cons_succ]
      refine wpAnyH_take (i := 25) (v := ?_) rfl (by kernel_rfl) (by kernel_rfl) (by kernel_rfl) (fun _ _ _ h => h) (Or.inl ⟨by rfl, ?_⟩) hS2 ?_
      rotate_left
      · intro u hu; (try dsimp only at hu); go_simp; try with_reducible rfl
      simp only [Act.put, List.getElem_toArray, List.getElem_cons_zero, List.getElem_cons_succ, List.setIfInBounds_toArray, List.set_cons_zero, List.set_cons_succ]
      refine wpAnyH_take (i := 26) (v := ?_) rfl (by kernel_rfl) (by kernel_rfl) (by kernel_rfl) (fun _ _ _ h => h) (Or.inl ⟨by rfl, ?_⟩) hS2 ?_
      rotate_left
      · intro u hu; (try dsimp only at hu); go_simp; try with_reducible rfl
      simp only [Act.put, List.getElem_toArray, List.getElem_cons_zero, List.getElem_cons_succ, List.setIfInBounds_toArray, List.set_cons_zero, List.set_cons_succ]
      refine wpAnyH_take (i := 27) (v := ?_) rfl (by kernel_rfl) (by kernel_rfl) (by kernel_rfl) (fun _ _ _ h => h) (Or.inl ⟨by rfl, ?_⟩) hS2 ?_
      rotate_left
      · intro u hu; (try dsimp only at hu); go_simp; try with_reducible rfl
      simp only [Act.put, List.getElem_toArray, List.getElem_cons_zero, List.getElem_cons_succ, List.setIfInBounds_toArray, List.set_cons_zero, List.set_cons_succ]
      refine wpAnyH_take (i := 29) (v := ?_) rfl (by kernel_rfl) (by kernel_rfl) (by kernel_rfl) (fun _ _ _ h => h) (Or.inl ⟨by rfl, ?_⟩) hS2 ?_
      rotate_left
      · intro u hu; (try dsimp only at hu); go_simp; try with_reducible rfl
      simp only [Act.put, List.getElem_toArray, List.getElem_cons_zero, List.getElem_cons_succ, List.setIfInBounds_toArray, List.set_cons_zero, List.set_cons_succ]
      refine wpAnyH_take (i := 30) (v := ?_) rfl (by kernel_rfl) (by kernel_rfl) (by kernel_rfl) (fun _ _ _ h => h) (Or.inl ⟨by rfl, ?_⟩) hS2 ?_
      rotate_left
      · intro u hu; (try dsimp only at hu); go_simp; try with_reducible rfl
      simp only [Act.put, List.getElem_toArray, List.getElem_cons_zero, List.getElem_cons_succ, List.setIfInBounds_toArray, List.set_cons_zero, List.set_cons_succ]
      refine wpAnyH_take (i := 31) (v := ?_) rfl (by kernel_rfl) (by kernel_rfl) (by kernel_rfl) (fun _ _ _ h => h) (Or.inl ⟨by rfl, ?_⟩) hS2 ?_
      rotate_left
      · intro u hu; (try dsimp only at hu); go_simp; try with_reducible rfl
      simp only [Act.put, List.getElem_toArray, List.getElem_cons_zero, List.getElem_cons_succ, List.setIfInBounds_toArray, List.set_cons_zero, List.set_cons_succ]
      obtain ⟨rcf, hff⟩ := (unhide HF8).fb
      have CR := hide (row_any w18 b _ rcf row12 hff.cells.1 hff.items hff.rno (by have := hff.small.1; omega))
      have HSM := hide hff.small.1
      clear hff
      refine wpAnyH_ready (rs := [28]) (by kernel_rfl) (by simp) ?_
      refine AllReadyH.cons rfl (fun K hK => ?_) AllReadyH.nil
      go_simp
      refine (unhide CR).mono ?_
      rintro e w19 ⟨⟨vf, rfl, hof⟩, hb⟩
      obtain ⟨vfa, vfc, hvf⟩ := own_shape hof
      subst hvf
      have HOF := hide (show Vl w19 (.slice vfa row12.length vfc) row12 from ⟨_, hof⟩)
      have HH9 := hide ((unhide HH8).below hb)
      have HB9 := hide ((unhide HB8).step hb)
      refine hK.out _ _ trivial (fun hS3 => ?_)
      clear hK K hof hb CR HF8 HH8 HB8
      obtain ⟨rch, hhf⟩ := (unhide HH9).fb
      have CR := hide (row_any w19 z6 _ rch row12 hhf.cells.1 hhf.items hhf.rno (by have := hhf.small.1; omega))
      clear hhf
      refine wpAnyH_ready (rs := [32]) (by kernel_rfl) (by simp) ?_
      refine AllReadyH.cons rfl (fun K hK => ?_) AllReadyH.nil
      go_simp
      refine (unhide CR).mono ?_
      rintro e w20 ⟨⟨vh, rfl, hoh⟩, hb⟩
      obtain ⟨vha, vhc, hvh⟩ := own_shape hoh
      subst hvh
      have HOH := hide (show Vl w20 (.slice vha row12.length vhc) row12 from ⟨_, hoh⟩)
      have HOF2 := hide ((unhide HOF).below hb)
      have HB10 := hide ((unhide HB9).step hb)
      refine hK.out _ _ trivial (fun hS4 => ?_)
      clear hK K hoh hb CR HOF HH9 HB9
      refine wpAnyH_ready (rs := [33]) (by kernel_rfl) (by simp) ?_
      refine AllReadyH.cons rfl (fun K hK => ?_) AllReadyH.nil
      go_simp
      refine (sameItems_yes w20 vfa vha vfc vhc row12 ((unhide HOF2).is (unhide HSM)) ((unhide HOH).is (unhide HSM))).mono ?_
      rintro e w21 ⟨rfl, hb⟩
      have HB11 := hide ((unhide HB10).step hb)
      refine hK.out _ _ trivial (fun hS5 => ?_)
      clear hK K hb HOF2 HOH HB10
      refine wpAnyH_take (i := 34) (v := ?_) rfl (by kernel_rfl) (by kernel_rfl) (by kernel_rfl) (fun _ _ _ h => h) (Or.inl ⟨by rfl, ?_⟩) hS5 ?_
      rotate_left
      · intro u hu; (try dsimp only at hu); go_simp; try with_reducible rfl
      simp only [Act.put, List.getElem_toArray, List.getElem_cons_zero, List.getElem_cons_succ, List.setIfInBounds_toArray, List.set_cons_zero, List.set_cons_succ]
      refine wpAnyH_take (i := 35) (v := ?_) rfl (by kernel_rfl) (by kernel_rfl) (by kernel_rfl) (fun _ _ _ h => h) (Or.inl ⟨by rfl, ?_⟩) hS5 ?_
      rotate_left
      · intro u hu; (try dsimp only at hu); go_simp; try with_reducible rfl
      simp only [Act.put, List.getElem_toArray, List.getElem_cons_zero, List.getElem_cons_succ, List.setIfInBounds_toArray, List.set_cons_zero, List.set_cons_succ]
      refine wpAnyH_done (by kernel_rfl) ?_ _
      go_wp2_with fail
      go_ret
      exact ⟨rfl, (unhide HB11).bel⟩
end Go.Proofs.Ytdkchihomllokaa


/-
  The contract of the document's own Numbers. Conditions: the text has at most a million bytes.
-/
import Derived.Test.YtdcfhdpbpfgohaaNumbers
import Derived.Test.YtdcfhdpbpfgohaaScan
import Derived.Deep.CutBlock
import Derived.Deep.CutRange
namespace Go.Proofs.Ytdcfhdpbpfgohaa
open Go.RowKit
set_option linter.unusedVariables false

theorem scan_stop (s : ByteArray) (f k n : Nat) (h : ∀ hk : k < s.size, Pl.isD s[k] = false) : Pl.scan f (s.data.toList.drop k) n = (n, 0) := by
  by_cases hk : k < s.size
  · rw [drop_at s k hk]
    cases f <;> simp [Pl.scan, h hk]
  · rw [drop_end s k hk]
    cases f <;> simp [Pl.scan]
theorem scan_go (s : ByteArray) (f k n : Nat) (hk : k < s.size) (h : Pl.isD s[k] = true) :
    Pl.scan (f + 1) (s.data.toList.drop k) n = ((Pl.scan f (s.data.toList.drop (k + 1)) (10 * n + Pl.dv s[k])).1, (Pl.scan f (s.data.toList.drop (k + 1)) (10 * n + Pl.dv s[k])).2 + 1) := by
  rw [drop_at s k hk]
  simp [Pl.scan, h]

/-- what holds at an outer round's head -/
structure QRel (w wr : World) (s : ByteArray) (v : Value) (acc : List Nat) : Prop where
  bel : Below w.heap.size w wr
  own : wr.ownsRow w.heap.size 3 1 v acc.length (icells acc)

theorem QRel.step {w wr w4 : World} {s : ByteArray} {v v2 : Value} {acc : List Nat} {x : Nat} (h : QRel w wr s v acc)
    (hg : (wr.alloc (.cells #[.int .i64 x] 3)).grownBy w4 v.ownBlock) (ho : w4.ownsRow w.heap.size 3 1 v2 (acc.length + 1) (icells acc ++ [.int .i64 x])) :
    QRel w w4 s v2 (acc ++ [x]) := by
  have hsz := h.bel.size
  refine ⟨((h.bel.alloc hsz _).grown hg (by simp; omega) fun k hk => (h.own.lt k hk).1), by simpa [icells] using ho⟩

set_option maxRecDepth 100000 in
set_option maxHeartbeats 4000000 in
theorem refnum_any (w : World) (s : ByteArray) (hs : s.size ≤ 1000000) (r : Option (List Nat)) (hr : Pl.numbers s.data.toList = r) :
    Calls Try.prog 11 #[.string s] w fun e w' => (∃ v, e = .returned (.tuple #[v, .bool r.isSome]) ∧ w'.ownsRow w.heap.size 3 1 v (r.getD []).length (icells (r.getD []))) ∧ Below w.heap.size w w' := by
  have hlen : s.data.toList.length = s.size := by rw [Array.length_toList]; rfl
  obtain ⟨i0, hi0, hz0, hz1, hz2⟩ := info_parts info3
  have HI := hide hi0
  have HZ0 := hide hz0
  have HZ1 := hide hz1
  have HZ2 := hide hz2
  have Hr := hide hr
  have HL := hide hlen
  clear hi0 hz0 hz1 hz2 hr hlen
  go_enter Try.func11, Try.ntmps11
  go_wp2_with fail
  go_loopw [4, 5] (fun v q wr => ∃ (i : Nat) (acc : List Nat), q = .int .i64 i ∧ i ≤ s.size + 1 ∧ QRel w wr s v acc ∧ acc.length ≤ i ∧ (i < s.size → ∃ f, s.size - i < f ∧ (Pl.numsF f (s.data.toList.drop i)).map (acc ++ ·) = r) ∧ (s.size ≤ i → r = some acc)) (fun v q wr => s.size + 1 - (intOf q).toNat)
  case atStart =>
    refine ⟨0, [], rfl, by omega, ⟨(Below.refl _ _).alloc (Nat.le_refl _) _, World.ownsRow_lit w #[] 0 (Nat.le_refl _) (by unfold maxLen; omega) (by simp)⟩, Nat.le_refl _, fun h => ⟨s.size + 1, by omega, ?_⟩, fun h => ?_⟩
    · have := unhide Hr
      unfold Pl.numbers at this
      rw [if_neg (fun he => by have h2 := unhide HL; rw [he] at h2; simp at h2; omega), unhide HL] at this
      rw [List.drop_zero, this]
      simp
    · have := unhide Hr
      unfold Pl.numbers at this
      rw [if_pos (List.eq_nil_of_length_eq_zero (by rw [unhide HL]; omega))] at this
      exact this.symm
  case round =>
    obtain ⟨i, acc, rfl, hi, hR, hacc, hq1, hq2⟩ := hrel
    have HR := hide hR
    clear hR
    by_cases hlt : i < s.size
    · obtain ⟨f, hf, hq⟩ := hq1 hlt
      obtain ⟨f, rfl⟩ : ∃ f', f = f' + 1 := ⟨f - 1, by omega⟩
      have HQ := hide hq
      clear hq hq1 hq2
      obtain ⟨N, M, hsc⟩ : ∃ N M, Pl.scan 7 (s.data.toList.drop i) 0 = (N, M) := ⟨_, _, rfl⟩
      have hN := Pl.scan7_le (s.data.toList.drop i)
      have hM := Pl.scan_len 7 (s.data.toList.drop i) 0
      rw [hsc] at hN hM
      simp only [List.length_drop, unhide HL] at hN hM
      have HS := hide hsc
      clear hsc
      go_upto_block 2 with fail
      go_cut [6, 7] from 9 to 87 (fun kk nn wx => kk = .int .i64 ((i + M : Nat) : Int) ∧ nn = .int .i64 (N : Int) ∧ wr = wx)
      case first =>
        go_wp2_with fail
        go_loop [6, 7] (fun kk nn => ∃ k n : Nat, kk = .int .i64 k ∧ nn = .int .i64 n ∧ i ≤ k ∧ k ≤ i + 7 ∧ k ≤ s.size ∧ (Pl.scan (7 - (k - i)) (s.data.toList.drop k) n).1 = N ∧ k - i + (Pl.scan (7 - (k - i)) (s.data.toList.drop k) n).2 = M) (fun kk nn => i + 7 - (intOf kk).toNat)
        case atStart => exact ⟨i, 0, rfl, rfl, by omega, by omega, by omega, by rw [Nat.sub_self, unhide HS], by rw [Nat.sub_self, Nat.sub_zero, unhide HS]; simp⟩
        case round =>
          obtain ⟨k, n, rfl, rfl, hik, hk7, hks, hn1, hn2⟩ := hrel
          have hge := Pl.scan_ge (7 - (k - i)) (s.data.toList.drop k) n
          rw [hn1] at hge
          have H1 := hide hn1
          have H2 := hide hn2
          clear hn1 hn2
          by_cases hc : k < s.size ∧ k - i < 7 ∧ ∀ hx : k < s.size, Pl.isD s[k] = true
          · obtain ⟨hc1, hc2, hc3⟩ := hc
            have hd := hc3 hc1
            have hdd := (Pl.isD_iff _).1 hd
            have hn1 := unhide H1
            have hn2 := unhide H2
            rw [show 7 - (k - i) = (7 - (k + 1 - i)) + 1 by omega, scan_go s _ k n hc1 hd] at hn1 hn2
            have H3 := hide hn1
            have H4 := hide hn2
            have hlo : (48 : Int) ≤ (s[k].toNat : Int) := by omega
            have hhi : (s[k].toNat : Int) ≤ 57 := by omega
            have hki : (k : Int) - (i : Int) < 7 := by omega
            have hdv : Pl.dv s[k] = s[k].toNat - 48 := rfl
            have HDV := hide hdv
            clear hn1 hn2 hc3 hd hdd hdv
            go_wp2_with fail
            go_round
            case rel =>
              refine ⟨k + 1, 10 * n + Pl.dv s[k], by go_num, by rw [unhide HDV]; go_num, by omega, by omega, by omega, unhide H3, ?_⟩
              have := unhide H4
              simp only at this
              omega
            case measure => simp [intOf]; omega
          · have hst : Pl.scan (7 - (k - i)) (s.data.toList.drop k) n = (n, 0) := by
              by_cases h7 : k - i < 7
              · exact scan_stop s _ k n (fun hk => by
                  cases hx : Pl.isD s[k] with
                  | false => rfl
                  | true => exact absurd ⟨hk, h7, fun _ => hx⟩ hc)
              · rw [show 7 - (k - i) = 0 by omega]
                rfl
            have hn1 := unhide H1
            have hn2 := unhide H2
            rw [hst] at hn1 hn2
            have H3 := hide hn1
            have H4 := hide hn2
            clear hn1 hn2 hst H1 H2
            by_cases h1 : k < s.size
            · by_cases h2 : (48 : Int) ≤ (s[k].toNat : Int)
              · by_cases h3 : (s[k].toNat : Int) ≤ 57
                · have h4 : ¬ ((k : Int) - (i : Int) < 7) := fun h4 => hc ⟨h1, by omega, fun _ => (Pl.isD_iff _).2 (by omega)⟩
                  clear hc
                  go_wp2_with fail
                  go_meet
                  exact ⟨by have := unhide H4; go_num, by have := unhide H3; go_num, rfl⟩
                · clear hc
                  have d3 : decide ((s[k].toNat : Int) ≤ 57) = false := decide_eq_false h3
                  go_wp2_with fail
                  go_meet
                  exact ⟨by have := unhide H4; go_num, by have := unhide H3; go_num, rfl⟩
              · clear hc
                have d2 : decide ((48 : Int) ≤ (s[k].toNat : Int)) = false := decide_eq_false h2
                go_wp2_with fail
                go_meet
                exact ⟨by have := unhide H4; go_num, by have := unhide H3; go_num, rfl⟩
            · clear hc
              go_wp2_with fail
              go_meet
              exact ⟨by have := unhide H4; go_num, by have := unhide H3; go_num, rfl⟩
      case rest =>
        obtain ⟨rfl, rfl, rfl⟩ := hcut
        have hdl : (s.data.toList.drop i).length = s.size - i := by rw [List.length_drop, unhide HL]
        have hs2 := unhide HS
        by_cases hM0 : M = 0
        · have hq := unhide HQ
          rw [Pl.numsF_none ((Pl.num_scan _).1 (by rw [hs2]; exact hM0))] at hq
          simp only [Option.map_none] at hq
          subst hq
          clear hs2 hdl
          subst hM0
          go_wp2_with fail
          go_ret2
          exact ⟨⟨_, rfl, World.ownsRow_nil _ _ _ _⟩, (unhide HR).bel⟩
        · have hM1 : 0 < M := by omega
          have hne2 : (Pl.scan 7 (s.data.toList.drop i) 0).2 ≠ 0 := by rw [hs2]; exact hM0
          clear hM0
          by_cases hN2 : 999999 < N
          · have hq := unhide HQ
            rw [Pl.numsF_bad hne2 (.inl (by rw [hs2]; exact hN2))] at hq
            simp only [Option.map_none] at hq
            subst hq
            clear hs2 hne2 hdl
            go_wp2_with fail
            go_ret2
            exact ⟨⟨_, rfl, World.ownsRow_nil _ _ _ _⟩, (unhide HR).bel⟩
          · by_cases hz : 1 < M ∧ s[i] = 48
            · obtain ⟨hz1, hz2⟩ := hz
              have hq := unhide HQ
              rw [Pl.numsF_bad hne2 (.inr (by rw [hs2]; exact ⟨hz1, by rw [drop_at s i hlt]; simp [hz2]⟩))] at hq
              simp only [Option.map_none] at hq
              subst hq
              have hc48 : ((s[i].toNat : Int) == 48) = true := by rw [hz2]; rfl
              clear hs2 hz2 hne2 hdl
              go_wp2_with fail
              go_ret2
              exact ⟨⟨_, rfl, World.ownsRow_nil _ _ _ _⟩, (unhide HR).bel⟩
            · have hnum := (Pl.num_scan (s.data.toList.drop i)).2.1 hne2 (by rw [hs2]; show N ≤ _; omega) (by
                rw [hs2, drop_at s i hlt]
                simpa using hz)
              rw [hs2] at hnum
              have HNUM := hide hnum
              have HDL := hide hdl
              have hown := (unhide HR).own
              have HOWN := hide hown
              have hbel := (unhide HR).bel
              have hsz := hbel.size
              clear hnum hdl hs2 hne2 hown hbel
              have hzz : 1 < M → ((s[i].toNat : Int) == 48) = false := by
                intro h1
                rw [beq_eq_false_iff_ne]
                intro h2
                exact hz ⟨h1, UInt8.toNat_inj.1 (by show _ = 48; omega)⟩
              clear hz
              have hN3 : (N : Int) ≤ 999999 := by omega
              have hb0 : (((i + M : Nat) : Int) == (i : Int)) = false := by rw [beq_eq_false_iff_ne]; omega
              have hb1 : ((i : Int) + (M : Int) == (i : Int)) = false := by rw [beq_eq_false_iff_ne]; omega
              clear hN2
              by_cases hm1 : 1 < M
              · have hz5 := hzz hm1
                have hm2 : (1 : Int) < (i : Int) + (M : Int) - (i : Int) := by omega
                clear hzz
                go_wp2_with (at_builtin; refine wpList_append_own _ rfl (.tmp 65) (.tmp 67) 28 rfl w.heap.size 3 i0 (.int .i64 0) 1 8 Try.underlying28 (unhide HI) (unhide HZ0) (unhide HZ1) (unhide HZ2) rfl (by decide) u4 acc.length (icells acc) rfl ((unhide HOWN).alloc _) ⟨wr.heap.size, 0, none⟩ 1 1 [.int .i64 N] rfl rfl (cell_one_new _ _ _) ?c2 ?c3 ?c4 ?c5 ?_)
                case c2 => first | rfl | (intro u hu; simp at hu; subst hu; rfl)
                case c3 => unfold maxLen; omega
                case c4 => omega
                case c5 => first | omega | (simp; omega)
                intro v2 w4 hown4 hg4 _
                have R4 := (unhide HR).step hg4 hown4
                have HR4 := hide R4
                clear R4 hg4 hown4
                by_cases hend : i + M < s.size
                · by_cases hbl : s[i + M] = 32
                  · have hbl2 : ((s[i + M].toNat : Int) != 32) = false := by rw [hbl]; rfl
                    have hq := unhide HQ
                    rw [Pl.numsF_go (unhide HNUM) (by rw [unhide HDL]; omega) (by rw [List.drop_drop, drop_at s _ hend]; simp [hbl]), List.drop_drop, ← Nat.add_assoc] at hq
                    clear hbl
                    by_cases hl1 : i + M + 1 < s.size
                    · have HQ2 := hide hq
                      clear hq
                      go_wp2_with fail
                      go_roundw
                      case rel =>
                        first
                          | refine ⟨i + M + 1, acc ++ [N], by go_num, by omega, unhide HR4, by simp; omega, fun _ => ⟨f, by omega, ?_⟩, fun h => by omega⟩
                          | ((repeat apply Exists.intro); refine ⟨⟨i + M + 1, acc ++ [N], by go_num, by omega, unhide HR4, by simp; omega, fun _ => ⟨f, by omega, ?_⟩, fun h => by omega⟩, rfl⟩)
                        rw [← unhide HQ2, Option.map_map]
                        congr 1
                        funext l
                        simp
                      case measure => simp [intOf]; omega
                    · rw [drop_end s _ hl1, Pl.numsF_nil] at hq
                      simp only [Option.map_none] at hq
                      subst hq
                      go_wp2_with fail
                      go_ret2
                      exact ⟨⟨_, rfl, World.ownsRow_nil _ _ _ _⟩, (unhide HR4).bel⟩
                  · have hbl2 : ((s[i + M].toNat : Int) != 32) = true := by
                      rw [bne_iff_ne]
                      intro h2
                      exact hbl (UInt8.toNat_inj.1 (by show _ = 32; omega))
                    have hq := unhide HQ
                    rw [Pl.numsF_stop (unhide HNUM) (by rw [unhide HDL]; omega) (by rw [List.drop_drop, drop_at s _ hend]; simpa using hbl)] at hq
                    simp only [Option.map_none] at hq
                    subst hq
                    clear hbl
                    go_wp2_with fail
                    go_ret2
                    exact ⟨⟨_, rfl, World.ownsRow_nil _ _ _ _⟩, (unhide HR4).bel⟩
                · have hq := unhide HQ
                  rw [Pl.numsF_last (unhide HNUM) (by rw [unhide HDL]; omega)] at hq
                  have HQ2 := hide hq
                  clear hq
                  go_wp2_with fail
                  go_roundw
                  case rel =>
                    first
                      | refine ⟨i + M + 1, acc ++ [N], by go_num, by omega, unhide HR4, by simp; omega, fun h => by omega, fun _ => ?_⟩
                      | ((repeat apply Exists.intro); refine ⟨⟨i + M + 1, acc ++ [N], by go_num, by omega, unhide HR4, by simp; omega, fun h => by omega, fun _ => ?_⟩, rfl⟩)
                    rw [← unhide HQ2]
                    rfl
                  case measure => simp [intOf]; omega
              · clear hzz
                have hm2 : (i : Int) + (M : Int) - (i : Int) ≤ 1 := by omega
                clear hm1
                go_wp2_with (at_builtin; refine wpList_append_own _ rfl (.tmp 65) (.tmp 67) 28 rfl w.heap.size 3 i0 (.int .i64 0) 1 8 Try.underlying28 (unhide HI) (unhide HZ0) (unhide HZ1) (unhide HZ2) rfl (by decide) u4 acc.length (icells acc) rfl ((unhide HOWN).alloc _) ⟨wr.heap.size, 0, none⟩ 1 1 [.int .i64 N] rfl rfl (cell_one_new _ _ _) ?c2 ?c3 ?c4 ?c5 ?_)
                case c2 => first | rfl | (intro u hu; simp at hu; subst hu; rfl)
                case c3 => unfold maxLen; omega
                case c4 => omega
                case c5 => first | omega | (simp; omega)
                intro v2 w4 hown4 hg4 _
                have R4 := (unhide HR).step hg4 hown4
                have HR4 := hide R4
                clear R4 hg4 hown4
                by_cases hend : i + M < s.size
                · by_cases hbl : s[i + M] = 32
                  · have hbl2 : ((s[i + M].toNat : Int) != 32) = false := by rw [hbl]; rfl
                    have hq := unhide HQ
                    rw [Pl.numsF_go (unhide HNUM) (by rw [unhide HDL]; omega) (by rw [List.drop_drop, drop_at s _ hend]; simp [hbl]), List.drop_drop, ← Nat.add_assoc] at hq
                    clear hbl
                    by_cases hl1 : i + M + 1 < s.size
                    · have HQ2 := hide hq
                      clear hq
                      go_wp2_with fail
                      go_roundw
                      case rel =>
                        first
                          | refine ⟨i + M + 1, acc ++ [N], by go_num, by omega, unhide HR4, by simp; omega, fun _ => ⟨f, by omega, ?_⟩, fun h => by omega⟩
                          | ((repeat apply Exists.intro); refine ⟨⟨i + M + 1, acc ++ [N], by go_num, by omega, unhide HR4, by simp; omega, fun _ => ⟨f, by omega, ?_⟩, fun h => by omega⟩, rfl⟩)
                        rw [← unhide HQ2, Option.map_map]
                        congr 1
                        funext l
                        simp
                      case measure => simp [intOf]; omega
                    · rw [drop_end s _ hl1, Pl.numsF_nil] at hq
                      simp only [Option.map_none] at hq
                      subst hq
                      go_wp2_with fail
                      go_ret2
                      exact ⟨⟨_, rfl, World.ownsRow_nil _ _ _ _⟩, (unhide HR4).bel⟩
                  · have hbl2 : ((s[i + M].toNat : Int) != 32) = true := by
                      rw [bne_iff_ne]
                      intro h2
                      exact hbl (UInt8.toNat_inj.1 (by show _ = 32; omega))
                    have hq := unhide HQ
                    rw [Pl.numsF_stop (unhide HNUM) (by rw [unhide HDL]; omega) (by rw [List.drop_drop, drop_at s _ hend]; simpa using hbl)] at hq
                    simp only [Option.map_none] at hq
                    subst hq
                    clear hbl
                    go_wp2_with fail
                    go_ret2
                    exact ⟨⟨_, rfl, World.ownsRow_nil _ _ _ _⟩, (unhide HR4).bel⟩
                · have hq := unhide HQ
                  rw [Pl.numsF_last (unhide HNUM) (by rw [unhide HDL]; omega)] at hq
                  have HQ2 := hide hq
                  clear hq
                  go_wp2_with fail
                  go_roundw
                  case rel =>
                    first
                      | refine ⟨i + M + 1, acc ++ [N], by go_num, by omega, unhide HR4, by simp; omega, fun h => by omega, fun _ => ?_⟩
                      | ((repeat apply Exists.intro); refine ⟨⟨i + M + 1, acc ++ [N], by go_num, by omega, unhide HR4, by simp; omega, fun h => by omega, fun _ => ?_⟩, rfl⟩)
                    rw [← unhide HQ2]
                    rfl
                  case measure => simp [intOf]; omega
    · have hq := hq2 (by omega)
      subst hq
      go_wp2_with fail
      go_ret2
      exact ⟨⟨_, rfl, (unhide HR).own⟩, (unhide HR).bel⟩
end Go.Proofs.Ytdcfhdpbpfgohaa

/-
  The contract of speaks: the document's example. No conditions.
-/
import Derived.Test.YtdkchihomllokaaLw9
namespace Go.Proofs.Ytdkchihomllokaa
open Go.RowKit
set_option linter.unusedVariables false
set_option maxRecDepth 20000

theorem srtZ_same {xs : List Int} (h : xs.Pairwise (· ≤ ·)) : srtZ xs = xs := by
  unfold srtZ
  exact List.mergeSort_of_pairwise (h.imp fun h => by simpa using h)
theorem toIs_inj {a b : List Nat} (h : toIs a = toIs b) : a = b := by
  induction a generalizing b with
  | nil => cases b with
    | nil => rfl
    | cons y b => simp [toIs] at h
  | cons x a ih => cases b with
    | nil => simp [toIs] at h
    | cons y b =>
      simp only [toIs, List.map_cons, List.cons.injEq] at h
      rw [ih h.2, show x = y by omega]
theorem outs_pw (es : List (Nat × Nat)) (y : Nat) : (toIs (Pl.outs es y)).Pairwise (· ≤ ·) := by
  unfold toIs Pl.outs Pl.sel
  rw [List.pairwise_map]
  exact (List.pairwise_lt_range.filter _).imp fun h => by omega

def es3 : List (Nat × Nat) := [(0, 1), (0, 2), (1, 2)]
theorem hp3 : Plain 3 es3 := ⟨by omega, by omega, by decide, by decide⟩
theorem hs3 : bare (Pl.ins es3) 3 = [0] := by decide
theorem hf3 : IsFault 3 es3 0 0 [] := .inr (.inr (.inr (.inr ⟨by decide, by decide, by decide, rfl, rfl, by decide, rfl⟩)))
theorem rd1 : Rdy 3 es3 [(0, 0, 1), (1, 0, 2)] 1 [] [(0, 0, 1)] [(1, 0, 2)] := ⟨rfl, by simp, by decide, by decide, ⟨_, _, rfl, by decide⟩, ⟨(0, 0, 1), [], rfl, by decide⟩, by decide, by omega⟩
theorem rd2 : Rdy 3 es3 [(2, 1, 2), (1, 0, 2)] 2 [] [(2, 1, 2), (1, 0, 2)] [] := ⟨rfl, by simp, by simp, by decide, ⟨_, _, rfl, by decide⟩, ⟨(1, 0, 2), [(2, 1, 2)], rfl, by decide⟩, by decide, by omega⟩
theorem sp1 {code : Int} {ends row2 : List It} {pl2 : List Nat} (h : Placed 3 es3 0 [] [] 0 [0, 1] code ends row2 pl2) : code = 0 ∧ ends = [] ∧ row2 = [(0, 0, 1), (1, 0, 2)] ∧ pl2 = [0] := by
  rcases h with ⟨_, _, _, _, h⟩ | ⟨_, _, _, _, y, hy, _, _, h⟩ | ⟨rfl, y, o, hy, _, ho, _, rfl, h⟩
  · exact absurd (.inl ⟨rfl, rfl⟩) (h 0 rfl)
  · obtain rfl : y = 0 := by omega
    exact absurd (srtZ_same (by decide)) h
  · obtain rfl : y = 0 := by omega
    obtain rfl : o = [0, 1] := toIs_inj (by rw [← ho]; rfl)
    rcases h with ⟨_, _, rfl, rfl⟩ | ⟨h, _⟩
    · exact ⟨rfl, rfl, by decide, rfl⟩
    · exact absurd rfl h
theorem sp2 {code : Int} {ends row2 : List It} {pl2 : List Nat} (h : Placed 3 es3 0 [(0, 0, 1), (1, 0, 2)] [0] 1 [2] code ends row2 pl2) : code = 0 ∧ ends = [(0, 0, 1)] ∧ row2 = [(2, 1, 2), (1, 0, 2)] ∧ pl2 = [0, 1] := by
  rcases h with ⟨_, _, _, _, h⟩ | ⟨_, _, _, _, y, hy, _, _, h⟩ | ⟨rfl, y, o, hy, _, ho, _, rfl, h⟩
  · exact absurd (.inr ⟨by simp, _, _, _, rd1⟩) (h 1 rfl)
  · obtain rfl : y = 1 := by omega
    exact absurd (srtZ_same (by decide)) h
  · obtain rfl : y = 1 := by omega
    obtain rfl : o = [2] := toIs_inj (by rw [← ho]; rfl)
    rcases h with ⟨h, _⟩ | ⟨_, A, C, hr, rfl⟩
    · cases h
    · obtain ⟨rfl, rfl, rfl⟩ := hr.only rd1
      exact ⟨rfl, rfl, by decide, rfl⟩
theorem sp3 {code : Int} {ends row2 : List It} {pl2 : List Nat} (h : Placed 3 es3 0 [(2, 1, 2), (1, 0, 2)] [0, 1] 2 [] code ends row2 pl2) : code = 0 ∧ ends = [(2, 1, 2), (1, 0, 2)] ∧ row2 = [(-1, 2, -1)] ∧ pl2 = [0, 1, 2] := by
  rcases h with ⟨_, _, _, _, h⟩ | ⟨_, _, _, _, y, hy, _, _, h⟩ | ⟨rfl, y, o, hy, _, ho, _, rfl, h⟩
  · exact absurd (.inr ⟨by simp, _, _, _, rd2⟩) (h 2 rfl)
  · obtain rfl : y = 2 := by omega
    exact absurd (srtZ_same (by decide)) h
  · obtain rfl : y = 2 := by omega
    obtain rfl : o = [] := toIs_inj (by rw [← ho]; rfl)
    rcases h with ⟨h, _⟩ | ⟨_, A, C, hr, rfl⟩
    · cases h
    · obtain ⟨rfl, rfl, rfl⟩ := hr.only rd2
      exact ⟨rfl, rfl, by decide, rfl⟩
theorem iv1 : Inv 3 es3 0 [(0, 0, 1), (1, 0, 2)] [0] := by
  have := Inv.first hp3 (show 0 < 3 by omega) (show Pl.ins es3 0 = [] by decide) (List.Perm.refl (Pl.outs es3 0))
  exact this
theorem iv2 : Inv 3 es3 0 [(2, 1, 2), (1, 0, 2)] [0, 1] := iv1.place hp3 (by simp) rd1 (List.Perm.refl (Pl.outs es3 1))

set_option maxHeartbeats 8000000 in
theorem speaks_any (w : World) : Calls Try.prog 7 #[] w fun e w' => e = .returned (.bool true) ∧ Below w.heap.size w w' := by
  go_enter Try.func7, Try.ntmps7
  go_wp2_with fail
  have hE : Es 0 (w.alloc (.cells #[.int .i64 0, .int .i64 1, .int .i64 0, .int .i64 2, .int .i64 1, .int .i64 2] 62)) (some ⟨w.heap.size, 0, none⟩) es3.length (toI es3) := by
    have := World.ownsRow_lit (base := 0) (size := 2) (e := 62) w #[.int .i64 0, .int .i64 1, .int .i64 0, .int .i64 2, .int .i64 1, .int .i64 2] 3 (Nat.zero_le _) (by unfold maxLen; omega) (by simp)
    obtain ⟨a, c, hv, hE⟩ := es_of_owns (es := toI es3) this (by omega)
    cases hv
    exact hE
  have C0 := hide (new_good (w.alloc (.cells #[.int .i64 0, .int .i64 1, .int .i64 0, .int .i64 2, .int .i64 1, .int .i64 2] 62)) 3 (some ⟨w.heap.size, 0, none⟩) 3 es3 hE (fun h => by cases h) (by decide) hp3 hf3)
  have HB0 := hide (b_al (w := w) (.cells #[.int .i64 0, .int .i64 1, .int .i64 0, .int .i64 2, .int .i64 1, .int .i64 2] 62))
  clear hE
  refine (unhide C0).mono ?_
  rintro e w1 ⟨⟨b, s, rfl, hlo, hF1, hS1⟩, hb1⟩
  have hB1 := (unhide HB0).trans (hb1.mono (unhide HB0).size)
  have hbb : w.heap.size ≤ b := Nat.le_trans (unhide HB0).size hlo
  obtain ⟨N, hN⟩ : ∃ N, w1.heap.size = N := ⟨_, rfl⟩
  rw [hN] at hF1 hS1
  have HBN := hide (show w.heap.size ≤ b ∧ w.heap.size ≤ N ∧ w.heap.size ≤ min b N by have := hB1.size; omega)
  have HF1 := hide (show Fy N b w1 b 3 es3 s none (.slice none 0 0) [] [] from ⟨hS1, ⟨_, hF1⟩, fun _ => rfl, .inl rfl⟩)
  have HB1 := hide hB1
  clear C0 HB0 hlo hF1 hS1 hb1 hB1 hbb hN
  go_wp2_with fail
  have hnu1 : Ns (w1.alloc (.cells #[.int .i64 0, .int .i64 1] 3)) (some ⟨w1.heap.size, 0, none⟩) 2 [0, 1] := by
    have := World.ownsRow_lit (base := 0) (size := 1) (e := 3) w1 #[.int .i64 0, .int .i64 1] 2 (Nat.zero_le _) (by unfold maxLen; omega) (by simp)
    obtain ⟨a, c, hv, _, hN⟩ := ns_of_owns (xs := [0, 1]) this (by omega)
    cases hv
    exact hN
  have C1 := hide (place_any (w1.alloc (.cells #[.int .i64 0, .int .i64 1] 3)) N b b 3 es3 0 s _ _ _ _ ((unhide HF1).below (b_al _)) hp3 hs3 (Inv.start _ _ _) 0 (some ⟨w1.heap.size, 0, none⟩) 2 2 [0, 1] hnu1 (fun h => by cases h) (by omega) (fun g off he _ h => by
    cases he
    obtain ⟨rc, hf⟩ := (unhide HF1).fb
    rcases h with h | h
    · have := hf.lt; omega
    · have := (hf.own.lt _ h).2; omega))
  have hba1 := b_al (w := w1) (.cells #[.int .i64 0, .int .i64 1] 3)
  have HBA1 := hide ((unhide HB1).trans (hba1.mono (unhide HB1).size))
  clear hnu1 hba1
  refine (unhide C1).mono ?_
  rintro e w2 ⟨code, ends, row2, pl2, v1, ra1, pv1, hP, rfl, hov, hF', _, _, _, hbz⟩
  obtain ⟨rfl, rfl, rfl, rfl⟩ := sp1 hP
  obtain ⟨va1, vc1, rfl⟩ := own_shape hov
  have HF2 := hide hF'
  have HB2 := hide ((unhide HBA1).trans (hbz.bel.mono (by have := unhide HBN; omega)))
  clear C1 hP hov hF' hbz
  go_wp2_with fail
  have hnu2 : Ns (w2.alloc (.cells #[.int .i64 2] 3)) (some ⟨w2.heap.size, 0, none⟩) 1 [2] := by
    have := World.ownsRow_lit (base := 0) (size := 1) (e := 3) w2 #[.int .i64 2] 1 (Nat.zero_le _) (by unfold maxLen; omega) (by simp)
    obtain ⟨a, c, hv, _, hN⟩ := ns_of_owns (xs := [2]) this (by omega)
    cases hv
    exact hN
  have C2 := hide (place_any (w2.alloc (.cells #[.int .i64 2] 3)) N b b 3 es3 0 s _ _ _ _ ((unhide HF2).below (b_al _)) hp3 hs3 iv1 1 (some ⟨w2.heap.size, 0, none⟩) 1 1 [2] hnu2 (fun h => by cases h) (by omega) (fun g off he _ h => by
    cases he
    obtain ⟨rc, hf⟩ := (unhide HF2).fb
    rcases h with h | h
    · have := hf.lt; omega
    · have := (hf.own.lt _ h).2; omega))
  have hba2 := b_al (w := w2) (.cells #[.int .i64 2] 3)
  have HBA2 := hide ((unhide HB2).trans (hba2.mono (unhide HB2).size))
  clear hnu2 hba2
  refine (unhide C2).mono ?_
  rintro e w3 ⟨code, ends, row2, pl2, v2, ra2, pv2, hP, rfl, hov, hF', _, _, _, hbz⟩
  obtain ⟨rfl, rfl, rfl, rfl⟩ := sp2 hP
  obtain ⟨va2, vc2, rfl⟩ := own_shape hov
  have HF3 := hide hF'
  have HB3 := hide ((unhide HBA2).trans (hbz.bel.mono (by have := unhide HBN; omega)))
  clear C2 hP hov hF' hbz
  go_wp2_with fail
  have C3 := hide (place_any w3 N b b 3 es3 0 s _ _ _ _ (unhide HF3) hp3 hs3 iv2 2 none 0 0 [] (Ns.nil _ _) (fun _ => ⟨rfl, rfl⟩) (by omega) (fun g off he _ h => by cases he))
  refine (unhide C3).mono ?_
  rintro e w4 ⟨code, ends, row2, pl2, v3, ra3, pv3, hP, rfl, hov, hF', _, _, _, hbz⟩
  obtain ⟨rfl, rfl, rfl, rfl⟩ := sp3 hP
  have hov' : w4.ownsRow w3.heap.size 72 3 v3 2 (icells [(2, 1, 2), (1, 0, 2)]) := hov
  obtain ⟨va3, vc3, rfl⟩ := own_shape hov'
  have HF4 := hide hF'
  have HB4 := hide ((unhide HB3).trans (hbz.bel.mono (by have := unhide HBN; omega)))
  obtain ⟨rc4, hf4⟩ := hF'.fb
  have CD := hide (done_any w4 N b 3 s ra3 rc4 _ pv3 _ hf4)
  clear C3 hP hov hov' hF' hbz hf4
  go_wp2_with fail
  refine (unhide CD).mono ?_
  rintro e w5 ⟨rfl, hb5⟩
  have HB5 := hide ((unhide HB4).trans (hb5.mono (unhide HB4).size))
  clear CD hb5
  rw [show decide (([0, 1, 2] : List Nat).length = 3) = true from rfl]
  go_wp2_with fail
  go_ret
  exact ⟨rfl, unhide HB5⟩
end Go.Proofs.Ytdkchihomllokaa


/-
  The contract of the document's own Int: a number's decimal digits. Conditions: the number is 0 to 999,999.
-/
import Derived.Test.YtdcfhdpbpfgohaaDoorDec
import Derived.Test.YtdcfhdpbpfgohaaDoorReader
namespace Go.Proofs.YtdcfhdpbpfgohaaDoor
open Go.RowKit
set_option linter.unusedVariables false

theorem ex10 (d : Nat) (h : d < 10) : (ByteArray.mk #[48, 49, 50, 51, 52, 53, 54, 55, 56, 57]).extract d (d + 1) = ⟨#[Pl.dc d]⟩ := by
  match d, h with
  | 0, _ => rfl
  | 1, _ => rfl
  | 2, _ => rfl
  | 3, _ => rfl
  | 4, _ => rfl
  | 5, _ => rfl
  | 6, _ => rfl
  | 7, _ => rfl
  | 8, _ => rfl
  | 9, _ => rfl
theorem one_append (c : UInt8) (s : ByteArray) : (ByteArray.mk #[c] ++ s).data.toList = c :: s.data.toList := by
  simp
theorem bytes_ext {a b : ByteArray} (h : a.data.toList = b.data.toList) : a = b := by
  cases a
  cases b
  simp at h
  rw [h]
theorem ret_s {a b : ByteArray} (h : a = b) : Ending.returned (.string a) = .returned (.string b) := by rw [h]
theorem size_list (s : ByteArray) : s.data.toList.length = s.size := by rw [Array.length_toList]; rfl

/-- what holds at a round's head -/
structure IRel (n m k : Nat) (s : ByteArray) : Prop where
  le : m ≤ 999999
  sz : s.size = k
  go : 0 < m ∨ k = 0 → Pl.dec m ++ s.data.toList = Pl.dec n
  stop : m = 0 → 0 < k → s.data.toList = Pl.dec n
theorem IRel.k6 {n m k : Nat} {s : ByteArray} (h : IRel n m k s) (hn : n ≤ 999999) (hg : 0 < m ∨ k = 0) : k ≤ 5 := by
  have h1 := congrArg List.length (h.go hg)
  rw [List.length_append, size_list, h.sz] at h1
  have h2 := (Pl.dec_len hn).1
  have h3 := (Pl.dec_len h.le).2
  omega
theorem IRel.step {n m k : Nat} {s : ByteArray} (h : IRel n m k s) (hg : 0 < m ∨ k = 0) : IRel n (m / 10) (k + 1) (ByteArray.mk #[Pl.dc (m % 10)] ++ s) := by
  have hm := h.le
  have h1 := h.go hg
  refine ⟨by omega, ?_, fun hg2 => ?_, fun h0 _ => ?_⟩
  · rw [← size_list, one_append, List.length_cons, size_list, h.sz]
  · have h10 : 10 ≤ m := by omega
    rw [Pl.dec_step h10 h.le] at h1
    rw [one_append, ← h1]
    simp
  · have h10 : m < 10 := by omega
    rw [Pl.dec_small h10] at h1
    rw [one_append, ← h1, Nat.mod_eq_of_lt h10]
    rfl

set_option maxHeartbeats 1000000 in
theorem int_any (w : World) (n : Nat) (hn : n ≤ 999999) :
    Calls Tryd.prog 19 #[.int .i64 n] w fun e w' => e = .returned (.string ⟨(Pl.dec n).toArray⟩) ∧ w' = w := by
  go_enter Tryd.func19, Tryd.ntmps19
  go_wp2
  go_loop [0, 3, 4] (fun q t i => ∃ (m k : Nat) (s : ByteArray), q = .int .i64 m ∧ t = .string s ∧ i = .int .i64 k ∧ IRel n m k s) (fun q t i => 20 - (intOf i).toNat)
  case atStart => exact ⟨n, 0, ⟨#[]⟩, rfl, rfl, rfl, hn, rfl, fun _ => by simp, fun _ h => by omega⟩
  case round =>
    obtain ⟨m, k, s, rfl, rfl, rfl, hR⟩ := hrel
    have hm := hR.le
    have hsz := hR.sz
    by_cases hg : 0 < m ∨ k = 0
    · have hk5 := hR.k6 hn hg
      have HS := hide (hR.step hg)
      have hss : s.size ≤ 6 := by omega
      have hex := ex10 (m % 10) (Nat.mod_lt _ (by decide))
      clear hR hsz
      by_cases hm0 : 0 < m
      · clear hg
        go_wp2
        go_round
        case rel => exact ⟨m / 10, k + 1, _, by go_num, rfl, by go_num, unhide HS⟩
        case measure => simp [intOf]; omega
      · obtain rfl : k = 0 := by omega
        have hmz : m = 0 := by omega
        subst hmz
        clear hg
        go_wp2
        go_round
        case rel => exact ⟨0 / 10, 0 + 1, _, by go_num, rfl, by go_num, unhide HS⟩
        case measure => simp [intOf]
    · have hmz : m = 0 := by omega
      have hk0 : 0 < k := by omega
      have hfin := hR.stop hmz hk0
      have HF := hide hfin
      subst hmz
      clear hR hg hfin hsz
      by_cases hk20 : k < 20
      · go_wp2
        go_ret
        exact ⟨ret_s (bytes_ext (by rw [unhide HF])), rfl⟩
      · go_wp2
        go_ret
        exact ⟨ret_s (bytes_ext (by rw [unhide HF])), rfl⟩
end Go.Proofs.YtdcfhdpbpfgohaaDoor

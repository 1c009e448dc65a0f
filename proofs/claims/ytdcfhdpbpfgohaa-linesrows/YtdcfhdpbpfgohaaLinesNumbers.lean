/-
  For every text s the statement LinesNumbers answers true, and its argument reads as it read before. Conditions: none (the statement's own row).
-/
import Derived.Test.YtdcfhdpbpfgohaaRows
import Derived.Test.YtdcfhdpbpfgohaaSpeaks
import Derived.Test.YtdcfhdpbpfgohaaRefNumbers
import Derived.Test.YtdcfhdpbpfgohaaSameInts
import Derived.WalkKit
import Derived.ProofKit
import Derived.OpenShut
import Derived.ShutString
import Derived.ChangeOld
namespace Go.Proofs.Ytdcfhdpbpfgohaa.linesNumbers
open Go.ChangeShapes Go.WideShapes Go.ChangeAt Go.RowKit
open Go.ChangeMaps (open_string shut_string)
set_option linter.unusedVariables false

theorem own : ownKnob Try.prog.godebug = none := by kernel_rfl

theorem toList_empty (s : ByteArray) : s.toList.isEmpty = decide (s.data.toList = []) := by
  rw [ByteArray.toList_eq]
  cases s.data.toList <;> simp

/-- lines.Numbers, whatever the text -/
theorem numbers_any (w : World) (s : ByteArray) (hs : s.size ≤ 1000000) (r : Option (List Nat)) (hr : Pl.numbers s.data.toList = r) :
    Calls Try.prog 10 #[.string s] w fun e w' => (∃ v, e = .returned (.tuple #[v, .bool r.isSome]) ∧ w'.ownsRow w.heap.size 3 1 v (r.getD []).length (icells (r.getD []))) ∧ Below w.heap.size w w' := by
  by_cases he : s.data.toList = []
  · unfold Pl.numbers at hr
    rw [if_pos he] at hr
    subst hr
    refine (numbers_empty w s (by rw [toList_empty]; simp [he])).mono ?_
    rintro e w' ⟨rfl, rfl⟩
    exact ⟨⟨_, rfl, World.ownsRow_nil _ _ _ _⟩, Below.refl _ _⟩
  · unfold Pl.numbers at hr
    rw [if_neg he] at hr
    exact numbers_loop w s hs (by rw [toList_empty]; simp [he]) r hr

theorem numsF_len (f : Nat) : ∀ l xs, Pl.numsF f l = some xs → xs.length ≤ f := by
  induction f with
  | zero => intro l xs h; simp [Pl.numsF] at h
  | succ f ih =>
    intro l xs h
    unfold Pl.numsF at h
    split at h
    · cases h
    · split at h
      · cases h; simp
      · split at h
        · obtain ⟨ys, hy, rfl⟩ := Option.map_eq_some_iff.1 h
          have := ih _ _ hy
          simp
          omega
        · cases h
theorem numbers_len {l : List UInt8} {xs : List Nat} (h : Pl.numbers l = some xs) : xs.length ≤ l.length + 1 := by
  unfold Pl.numbers at h
  split at h
  · cases h; simp
  · exact numsF_len _ _ _ h

set_option maxHeartbeats 1000000 in
theorem walk (s : ByteArray) (w0 : s.size ≤ maxLen) (w : World) :
    Calls Try.prog 4 #[.string s] w fun e w' => e = .returned (.bool true) ∧ Below w.heap.size w w' := by
  by_cases hs : 500 < s.size
  · go_enter Try.func4, Try.ntmps4
    go_wp2_with fail
    refine (speaks_any _).mono ?_
    rintro e w1 ⟨rfl, hb1⟩
    have HB := hide hb1
    clear hb1
    go_wp2_with fail
    go_ret
    exact ⟨rfl, unhide HB⟩
  · have hlen : s.data.toList.length = s.size := by rw [Array.length_toList]; rfl
    obtain ⟨r, hr⟩ : ∃ r, Pl.numbers s.data.toList = r := ⟨_, rfl⟩
    have hrl : (r.getD []).length ≤ 501 := by
      cases r with
      | none => simp
      | some xs => have := numbers_len hr; simp; omega
    have HR := hide hr
    clear hr hlen
    go_enter Try.func4, Try.ntmps4
    go_wp2_with fail
    refine (speaks_any _).mono ?_
    rintro e w1 ⟨rfl, hb1⟩
    have HB := hide hb1
    clear hb1
    go_wp2_with fail
    refine (numbers_any _ s (by omega) r (unhide HR)).mono ?_
    rintro e w2 ⟨⟨v1, rfl, ho1⟩, hb2⟩
    obtain ⟨x1, c1, hv1, hn1⟩ := ns_of_owns ho1 (by omega)
    subst hv1
    have HB2 := hide hb2
    have HN1 := hide hn1
    clear hb2 hn1 ho1
    go_wp2_with fail
    refine (refnum_any _ s (by omega) r (unhide HR)).mono ?_
    rintro e w3 ⟨⟨v2, rfl, ho2⟩, hb3⟩
    obtain ⟨x2, c2, hv2, hn2⟩ := ns_of_owns ho2 (by omega)
    subst hv2
    have HN2 := hide hn2
    have HN3 := hide ((unhide HN1).below hb3)
    have HB3 := hide (((unhide HB).trans ((unhide HB2).mono (unhide HB).size)).trans (hb3.mono (Nat.le_trans (unhide HB).size (unhide HB2).size)))
    clear hb3 hn2 ho2
    cases r with
    | none =>
      go_wp2_with fail
      go_ret
      exact ⟨rfl, unhide HB3⟩
    | some xs =>
      go_wp2_with fail
      refine (same_yes _ x1 x2 _ c1 c2 _ (unhide HN3) (unhide HN2)).mono ?_
      rintro e w4 ⟨rfl, m, rfl⟩
      go_wp2_with fail
      go_ret
      exact ⟨rfl, below_draws (unhide HB3) m⟩

set_option maxRecDepth 100000 in
theorem lifted (os : Os) (started : os.Started) (H : Type) (enc : TypeId × Value → H) :
    ReturnsInHanded {} Try.checked os 4 .any (Rows.linesNumbersSpec.pre6 enc Try.prog Try.f4 Rows.linesNumbersRow.domain false) (Rows.linesNumbersSpec.post enc Try.prog Try.f4 false true false false) := by
  refine returnsInHanded_of_change (C := Try.checked) own started (by kernel_rfl) Try.func4
    (ChangeSpec.witness6 (enc := enc) (C := Try.checked) false ⟨#[], #[.string ByteArray.empty], []⟩ 8 (by kernel_rfl) (by kernel_rfl) (by kernel_rfl) (by kernel_rfl)) ?_
  intro W base args ds gs before hval0 hW hcnd _
  have hval : ∀ (j : Nat) t v, Try.f4.params[j]? = some t → args[j]? = some v → Value.okWide Try.prog W .any base t v := hval0
  have hW' := hW
  obtain ⟨p, q, hA0, hV, rfl, hfz, hnd⟩ := hW
  have hA : DataW.TrodAll enc Try.prog W 0 (fun _ => true) true Try.f4.params.toList args.toList ds p := hA0
  rw [Try.params4] at hA hval
  obtain ⟨v0, vs0, d0, ds0, p0, q0, hargs, rfl, rfl, h0, r0⟩ := trodAll_cons hA
  obtain ⟨rfl, rfl, rfl⟩ := trodAll_nil r0
  obtain rfl : args = #[v0] := by cases args; simp_all
  obtain ⟨rfl, rfl⟩ := trodVars_none hV
  obtain ⟨a0, rfl, rfl, rfl, w0⟩ := open_string Try.underlying9 (hval 0 9 v0 rfl rfl) h0
  clear hA0 hval0
  simp only [List.append_nil] at hW'
  refine (walk a0 w0 W).mono fun e W' ⟨he, bel⟩ => ?_
  subst he
  exact ⟨_, rfl, _, _, _, [], [], [], hW', trodAll_mk1 (shut_bool Try.underlying4 _), (trodAll_cons_mk (shut_string Try.underlying9 w0) trodAll_mk0), rfl, bel.frame _, fun h => by cases h⟩

theorem over : Rows.linesNumbersRow.holds Try.pinned (OpenSpec.ofChange Rows.linesNumbersSpec) :=
  OpenClaim.holds_of_wide 4 Try.f4 rfl rfl rfl rfl rfl rfl rfl ⟨rfl, rfl, rfl, rfl, rfl⟩ rfl rfl rfl rfl rfl (by kernel_rfl) Try.func4 (by kernel_rfl)
    (of_decide_eq_true (by kernel_rfl)) (by unfold Func.isWrapper; first | (rw [if_pos (by decide +kernel)]; kernel_rfl) | (rw [if_neg (by decide +kernel)]; exact ⟨rfl, rfl⟩))
    (fun os started H enc _ => lifted os started H enc)

theorem proved : Rows.LinesNumbersSaid :=
  over
#print axioms proved
end Go.Proofs.Ytdcfhdpbpfgohaa.linesNumbers

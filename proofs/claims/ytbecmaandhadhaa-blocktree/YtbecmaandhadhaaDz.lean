/-
  Plain mathematics: how large a walk depth first gets; the loop's states. No conditions beyond each theorem's own.
-/
import Derived.Test.YtbecmaandhadhaaDs
namespace Go.Proofs.Ytbecmaandhadhaa.Df
open Go.Proofs.Ytbecmaandhadhaa.Pl
set_option linter.unusedVariables false

def Tm (V : Nat) (S : St) : Prop := S.time + unv V S ≤ V
theorem Tm.congr {V : Nat} {S S' : St} (h : Tm V S) (ht : S'.time = S.time) (hc : S'.come = S.come) : Tm V S' := by
  unfold Tm unv at *
  rw [ht, hc]
  exact h
theorem Tm.enter {V : Nat} {es : Ed} {x b : Nat} {S : St} (h : Tm V S) (hx : x < V) (hp : Pre es x b S) : Tm V (enterF x b S) := by
  have h3 : unv V (enterF x b S) < unv V S := unv_lt (x := x) (fun v hv => by rw [(enter_grew hp v hv).1]; exact hv) hx hp.x0 (enter_at hp).x1
  unfold Tm at *
  show S.time + 1 + _ ≤ V
  omega
/-- what is asked of the walk from the other end of an edge -/
theorem sub_unv {V : Nat} {es : Ed} {f x b : Nat} {S0 : St} (hx : x < V) (hp : Pre es x b S0) (hu : unv V S0 ≤ f + 1) {P : List Nat} {lo : Nat} {S : St} (h : Lp es x b (enterF x b S0) P lo S) (o : List Nat) (r : Nat → Nat) : unv V { S with opn := o, par := r } ≤ f := by
  have h3 : unv V (enterF x b S0) < unv V S0 := unv_lt (x := x) (fun v hv => by rw [(enter_grew hp v hv).1]; exact hv) hx hp.x0 (enter_at hp).x1
  have h4 : unv V { S with opn := o, par := r } ≤ unv V (enterF x b S0) := unv_le fun v hv => h.grew.vis hv
  omega
theorem loop_tm {V : Nat} {es : Ed} (hg : Gr V es) {f : Nat} (ih : ∀ x b S, x < V → Pre es x b S → unv V S ≤ f → Tm V S → Tm V (fromF es f x b S).2) {x b : Nat} {S : St} (hx : x < V) (hp : Pre es x b S) (hu : unv V S ≤ f + 1) (ht : Tm V S) :
    ∀ k, k ≤ (adj es x).length → Tm V (loopF es f x b S k).2 := by
  have hlp := loop_lp hg (fun x b S => from_post hg f x b S) hx hp hu
  intro k
  induction k with
  | zero =>
    intro _
    exact ht.enter hx hp
  | succ k ihk =>
    intro hk
    have h := hlp k (by omega)
    have h0 := ihk (by omega)
    have hkl : k < (adj es x).length := by omega
    have hmem : (adj es x).getD k 0 ∈ adj es x := by simp [List.getD, hkl]
    rw [loopF_succ hkl]
    generalize (adj es x).getD k 0 = e at *
    generalize loopF es f x b S k = p at *
    by_cases h1 : e + 1 = b ∨ p.2.come x < p.2.come (oth es e x)
    · rw [stepF_skip h1]; exact h0
    · by_cases h2 : 0 < p.2.come (oth es e x)
      · rw [stepF_back h1 h2]; exact h0.congr rfl rfl
      · rw [stepF_tree h1 h2 rfl]
        have hc : p.2.come (oth es e x) = 0 := by omega
        have hpre := lp_pre (o := p.2.opn ++ [e]) (enter_at hp) h hmem hc
        have hlt := (hg.lt (en_of_adj hmem)).2
        have := ih _ _ _ hlt hpre (sub_unv hx hp hu h _ _) (h0.congr rfl rfl)
        refine this.congr ?_ ?_ <;> (split <;> rfl)
theorem from_tm {V : Nat} {es : Ed} (hg : Gr V es) : ∀ f x b S, x < V → Pre es x b S → unv V S ≤ f → Tm V S → Tm V (fromF es f x b S).2 := by
  intro f
  induction f with
  | zero =>
    intro x b S hx hp hu ht
    exact ht
  | succ f ih =>
    intro x b S hx hp hu ht
    rw [fromF_succ]
    exact (loop_tm hg ih hx hp hu ht _ (Nat.le_refl _)).congr rfl rfl

theorem loop_slp {V : Nat} {es : Ed} (hg : Gr V es) {f x b : Nat} {S : St} (hx : x < V) (hp : Pre es x b S) (hs : SPre es b S) (hu : unv V S ≤ f + 1) :
    ∀ k, k ≤ (adj es x).length → ∃ seg nb, SLp es x b (enterF x b S) ((adj es x).take k) (loopF es f x b S k).2 seg nb := by
  have hlp := loop_lp hg (fun x b S => from_post hg f x b S) hx hp hu
  have ha := enter_at hp
  intro k
  induction k with
  | zero =>
    intro _
    exact ⟨[], [], slp_start hp hs⟩
  | succ k ihk =>
    intro hk
    obtain ⟨seg, nb, hl⟩ := ihk (by omega)
    have h := hlp k (by omega)
    have hkl : k < (adj es x).length := by omega
    have hmem : (adj es x).getD k 0 ∈ adj es x := by simp [List.getD, hkl]
    have htk : (adj es x).take (k + 1) = (adj es x).take k ++ [(adj es x).getD k 0] := by
      rw [List.take_add_one]
      simp [List.getD, hkl]
    have hnot : (adj es x).getD k 0 ∉ (adj es x).take k := by
      intro hin
      obtain ⟨j, hj, hje⟩ := List.mem_iff_getElem.1 hin
      have hj2 : j < k := by simp at hj; omega
      have hnd := adj_nodup hg.nl x
      rw [List.getElem_take] at hje
      have h5 : (adj es x)[j]'(by omega) = (adj es x)[k] := by rw [hje]; simp [List.getD, hkl]
      exact List.pairwise_iff_getElem.1 hnd j k (by omega) hkl hj2 h5
    have htP : ∀ i ∈ (adj es x).take k, i ∈ adj es x := fun i hi => List.mem_of_mem_take hi
    rw [loopF_succ hkl, htk]
    generalize (adj es x).getD k 0 = e at *
    generalize (adj es x).take k = P at *
    generalize loopF es f x b S k = p at *
    by_cases h1 : e + 1 = b ∨ p.2.come x < p.2.come (oth es e x)
    · rw [stepF_skip h1]
      exact ⟨seg, nb, slp_skip hp hs hmem h hl h1⟩
    · by_cases h2 : 0 < p.2.come (oth es e x)
      · rw [stepF_back h1 h2]
        exact ⟨_, _, slp_back hp hs hg.nl hmem hnot h hl h1 h2⟩
      · rw [stepF_tree h1 h2 rfl]
        have hc : p.2.come (oth es e x) = 0 := by omega
        have hpre := lp_pre (o := p.2.opn ++ [e]) ha h hmem hc
        have hspre := slp_pre hp hs htP hmem h hl hc
        have hlt := (hg.lt (en_of_adj hmem)).2
        have hun := sub_unv hx hp hu h (p.2.opn ++ [e]) (upd p.2.par (oth es e x) x)
        have hpost := from_post hg f _ _ _ hlt hpre hun
        obtain ⟨sy, ny, hspost⟩ := from_spost hg f _ _ _ hlt hpre hspre hun
        generalize fromF es f (oth es e x) (e + 1) { p.2 with opn := p.2.opn ++ [e], par := upd p.2.par (oth es e x) x } = r at *
        exact slp_tree hp hs hmem htP h hl hc hpost hspost

/-- sizes -/
structure Sz (V : Nat) (es : Ed) (S : St) : Prop where
  tm : Tm V S
  lt : ∀ e ∈ all S, e < es.length
  nd : (all S).Nodup
  ne : ∀ B ∈ S.bks, B ≠ []
theorem Sz.time {V : Nat} {es : Ed} {S : St} (h : Sz V es S) : S.time ≤ V := by have := h.tm; unfold Tm at this; omega
theorem Sz.all {V : Nat} {es : Ed} {S : St} (h : Sz V es S) : (all S).length ≤ es.length := nodup_le es.length _ h.nd h.lt
theorem Sz.opn {V : Nat} {es : Ed} {S : St} (h : Sz V es S) : S.opn.length ≤ es.length := by
  have := h.all
  unfold Df.all at this
  rw [List.length_append] at this
  omega
theorem len_flat : ∀ (L : List (List Nat)), (∀ B ∈ L, B ≠ []) → L.length ≤ L.flatten.length
  | [], _ => by simp
  | A :: L, h => by
    have h1 := len_flat L fun B hB => h B (by simp [hB])
    have h2 : 0 < A.length := List.length_pos_iff.2 (h A (by simp))
    rw [List.flatten_cons, List.length_append, List.length_cons]
    omega
theorem Sz.bks {V : Nat} {es : Ed} {S : St} (h : Sz V es S) : S.bks.length ≤ es.length := by
  have h1 := h.all
  have h2 := len_flat S.bks h.ne
  unfold Df.all at h1
  rw [List.length_append] at h1
  omega
theorem Sz.congr {V : Nat} {es : Ed} {S S' : St} (h : Sz V es S) (ht : S'.time = S.time) (hc : S'.come = S.come) (ho : S'.opn = S.opn) (hb : S'.bks = S.bks) : Sz V es S' := by
  have ha : Df.all S' = Df.all S := by unfold Df.all; rw [ho, hb]
  exact ⟨h.tm.congr ht hc, by rw [ha]; exact h.lt, by rw [ha]; exact h.nd, by rw [hb]; exact h.ne⟩
theorem loop_sz {V : Nat} {es : Ed} (hg : Gr V es) {f x b : Nat} {S : St} (hx : x < V) (hp : Pre es x b S) (hs : SPre es b S) (hu : unv V S ≤ f + 1) (hz : Sz V es S) :
    ∀ k, k ≤ (adj es x).length → Sz V es (loopF es f x b S k).2 := by
  intro k hk
  obtain ⟨seg, nb, hl⟩ := loop_slp hg hx hp hs hu k hk
  refine ⟨loop_tm hg (fun x b S => from_tm hg f x b S) hx hp hu hz.tm k hk, fun e he => ?_, hl.nd, fun B hB => ?_⟩
  · rcases (hl.mem e).1 he with h1 | ⟨u, v, h1, _⟩ | h1
    · exact hz.lt e h1
    · exact h1.1
    · exact (mem_adj.1 (List.mem_of_mem_take h1)).1
  · rw [hl.bks] at hB
    rcases List.mem_append.1 hB with h1 | h1
    · exact hz.ne B h1
    · exact (hl.bl B h1).1
theorem from_sz {V : Nat} {es : Ed} (hg : Gr V es) {f x b : Nat} {S : St} (hx : x < V) (hp : Pre es x b S) (hs : SPre es b S) (hu : unv V S ≤ f) (hz : Sz V es S) : Sz V es (fromF es f x b S).2 := by
  obtain ⟨seg, nb, hl⟩ := from_spost hg f x b S hx hp hs hu
  refine ⟨from_tm hg f x b S hx hp hu hz.tm, fun e he => ?_, hl.nd, fun B hB => ?_⟩
  · rcases (hl.mem e).1 he with h1 | ⟨u, v, h1, _⟩
    · exact hz.lt e h1
    · exact h1.1
  · rw [hl.bks] at hB
    rcases List.mem_append.1 hB with h1 | h1
    · exact hz.ne B h1
    · exact (hl.bl B h1).1
/-- an edge is put to the open ones -/
theorem Sz.push {V : Nat} {es : Ed} {S : St} (h : Sz V es S) {e b : Nat} {r : Nat → Nat} (he : e < es.length) (hs : SPre es b { S with opn := S.opn ++ [e], par := r }) : Sz V es { S with opn := S.opn ++ [e], par := r } := by
  refine ⟨h.tm.congr rfl rfl, fun i hi => ?_, hs.nd, h.ne⟩
  rcases mem_push.1 hi with rfl | hi
  · exact he
  · exact h.lt i hi
theorem sz_start (V : Nat) (es : Ed) (S : St) (ht : S.time = 0) (ho : S.opn = []) (hb : S.bks = []) : Sz V es S := by
  refine ⟨?_, ?_, ?_, ?_⟩
  · unfold Tm
    have : unv V S ≤ V := by
      unfold unv
      have := List.length_filter_le (fun v => S.come v == 0) (List.range V)
      simpa using this
    omega
  · unfold Df.all; rw [ho, hb]; simp
  · unfold Df.all; rw [ho, hb]; simp
  · rw [hb]; simp
end Go.Proofs.Ytbecmaandhadhaa.Df


/-
  What RotationMirrors asks, in plain words: lists begun elsewhere, how many faces of each size; a map of counts. No conditions beyond each theorem's own.
-/
import Derived.Test.YtmklngabfdnclaaDoorMr
import Derived.Test.YtmklngabfdnclaaDoorMi2
import Derived.Test.YtmklngabfdnclaaDoorWsw
import Derived.Maps.RangeWalk
import Derived.Maps.OwnOps
import Derived.Maps.OwnSet
import Derived.Maps.Views
namespace Go.Proofs.YtmklngabfdnclaaDoor
open Go.RowKit Go.Maps
set_option linter.unusedVariables false
set_option maxRecDepth 20000

theorem i64_and255 (n : Int) : bits .and .i64 n 255 = n % 256 := i64_mask n 255 8 (by decide) (by decide) (by decide)
/-- a list, begun elsewhere -/
def rotS (s : Nat) (l : List Int) : List Int := (List.range l.length).map fun k => l.getD ((k + s) % l.length) 0
theorem rotS_length (s : Nat) (l : List Int) : (rotS s l).length = l.length := by simp [rotS]
theorem rotS_getD (s : Nat) (l : List Int) {k : Nat} (hk : k < l.length) : (rotS s l).getD k 0 = l.getD ((k + s) % l.length) 0 := by simp [rotS, List.getD, hk]
theorem rotS_rot (s : Nat) (l : List Int) : RotL l (rotS s l) := by
  refine ⟨(rotS_length s l).symm, ?_⟩
  rw [rotS_length]
  rcases Nat.eq_zero_or_pos l.length with h | h
  · exact .inl h
  · refine .inr ⟨s % l.length, Nat.mod_lt _ h, fun i hi => ?_⟩
    rw [rotS_length] at hi ⊢
    rw [rotS_getD s l hi, Nat.add_mod_mod]
theorem rotL_refl (l : List Int) : RotL l l := by
  refine ⟨rfl, ?_⟩
  rcases Nat.eq_zero_or_pos l.length with h | h
  · exact .inl h
  · exact .inr ⟨0, h, fun i hi => by rw [Nat.add_zero, Nat.mod_eq_of_lt hi]⟩
theorem sameR_refl (rs : List (List Int)) : SameR rs rs := ⟨rfl, fun k _ => rotL_refl _⟩
theorem maps_getD (f : List Int → List Int) (hf : f [] = []) (rs : List (List Int)) (t : Nat) : (rs.map f).getD t [] = f (rs.getD t []) := by
  simp only [List.getD, List.getElem?_map]
  cases rs[t]? <;> simp [hf]
theorem sameR_rots (s : Nat) (rs : List (List Int)) : SameR rs (rs.map (rotS s)) := by
  refine ⟨(List.length_map _).symm, fun k _ => ?_⟩
  rw [maps_getD (rotS s) rfl]
  exact rotS_rot s _
theorem revs_revs (rs : List (List Int)) : (rs.map List.reverse).map List.reverse = rs := by
  rw [List.map_map, show List.reverse ∘ List.reverse = (id : List Int → List Int) from funext fun l => by simp]
  simp

/-- how many lists have this length -/
def cntL (F : List (List Int)) (z : Int) : Nat := (F.filter fun l => decide ((l.length : Int) = z)).length
theorem cntL_snoc {F : List (List Int)} {k : Nat} (hk : k < F.length) (z : Int) : cntL (F.take (k + 1)) z = cntL (F.take k) z + if ((F.getD k []).length : Int) = z then 1 else 0 := by
  rw [take_snoc hk]
  unfold cntL
  rw [List.filter_append, List.length_append]
  congr 1
  generalize F.getD k [] = l
  by_cases e : (l.length : Int) = z
  · rw [if_pos e, List.filter_cons_of_pos (by simpa using e)]
    rfl
  · rw [if_neg e, List.filter_cons_of_neg (by simpa using e)]
    rfl
theorem cntL_le (F : List (List Int)) (z : Int) : cntL F z ≤ F.length := List.length_filter_le _ _
theorem cntL_faces (N : Nat → Nat) (H : Nat) (z : Int) : cntL (rowsI (facesF N H H)) z = cycP (fun s => decide ((s : Int) = z)) N H := by
  unfold cntL cycP rowsI facesF
  rw [List.map_map, List.filter_map, List.length_map, List.filter_filter]
  congr 1
  refine List.filter_congr fun h _ => ?_
  simp only [Function.comp, toIs_length]
  rw [Bool.and_comm]

theorem rowsI_rev (q : List (List Nat)) : (rowsI q).map List.reverse = rowsI (q.map List.reverse) := by
  unfold rowsI
  rw [List.map_map, List.map_map]
  refine List.map_congr_left fun l _ => ?_
  simp [toIs]

/-- what the program tells of a rotation and of it the other way round -/
structure MirD (w : World) (V : Int) (a : Option Addr) (n cap : Nat) (ra : Option Addr) (m rc : Nat) (rs Fa Fb : List (List Int)) (F g : Nat) : Prop where
  la : Fa.length = F
  lb : Fb.length = F
  le : F ≤ 1000
  cnt : ∀ z, cntL Fa z = cntL Fb z
  gl : g ≤ 1000
  f : ∀ u, Below w.heap.size w u → Calls Tryd.prog 8 #[.agg #[.int .i64 V, .slice a n cap], .slice ra m rc] u fun e w' => (∃ va vc, e = .returned (.slice va F vc) ∧ Rr w' va F Fa) ∧ Below u.heap.size u w'
  fs : ∀ u sa sc, Below w.heap.size w u → Rr u sa m (rs.map List.reverse) → Calls Tryd.prog 8 #[.agg #[.int .i64 V, .slice a n cap], .slice sa m sc] u fun e w' => (∃ va vc, e = .returned (.slice va F vc) ∧ Rr w' va F Fb) ∧ Below u.heap.size u w'
  h : ∀ u, Below w.heap.size w u → Calls Tryd.prog 9 #[.agg #[.int .i64 V, .slice a n cap], .slice ra m rc] u fun e w' => e = .returned (.tuple #[.int .i64 (g : Nat), .int .i64 0]) ∧ Below u.heap.size u w'
  hs : ∀ u sa sc, Below w.heap.size w u → Rr u sa m (rs.map List.reverse) → Calls Tryd.prog 9 #[.agg #[.int .i64 V, .slice a n cap], .slice sa m sc] u fun e w' => e = .returned (.tuple #[.int .i64 (g : Nat), .int .i64 0]) ∧ Below u.heap.size u w'

theorem mir_data (w : World) (hT : pt.Tab w) (V : Int) (a : Option Addr) (n cap : Nat) (zs : List (Int × Int)) (hE : Es 0 w a n zs) (hn60 : n ≤ 60) (ra : Option Addr) (m rc : Nat) (rs : List (List Int)) (hr : Rr w ra m rs) (hrot : IsRot V n zs rs) : ∃ Fa Fb F g, MirD w V a n cap ra m rc rs Fa Fb F g := by
  obtain ⟨v, es, rfl, rfl, hne, hp⟩ := pt.plain_of_good hE.1 hrot.good
  subst hne
  obtain ⟨q, rfl, ro⟩ := pt.ro_of hp hrot
  have hmV : m = v := by have := hr.1; rw [rowsI_length] at this; rw [← this, ro.len]
  have ro' := ro.rev
  have hN := pt.nx_behind ro
  have hM := pt.nx_behind ro'
  have hpm := pt.nx_pm ro hN
  have hpm' := pt.nx_pm ro' hM
  have hyes' : IsRot v es.length (toI es) (rowsI (q.map List.reverse)) := ro'.rot hp
  obtain ⟨c, hc⟩ := pt.cnt_ex v es
  obtain ⟨g, hgg⟩ := pt.euler ro hN hpm hc
  obtain ⟨g', hgg'⟩ := pt.euler ro' hM hpm' hc
  have hcy := (ro.mir hN hM (fun _ => true)).2
  have hemp : emp (q.map List.reverse) v = emp q v := by
    unfold emp
    congr 1
    refine List.filter_congr fun y _ => ?_
    exact decide_eq_decide.2 (pt.rev_emp q y)
  have hgg : 2 * c + es.length = v + cyc (pt.nxF es q) (2 * es.length) + emp q v + 2 * g := hgg
  have hgg' : 2 * c + es.length = v + cyc (pt.nxF es (q.map List.reverse)) (2 * es.length) + emp (q.map List.reverse) v + 2 * g' := hgg'
  have hge : g' = g := by rw [hemp] at hgg'; omega
  subst hge
  have hgb : g' ≤ 1000 := by
    have hv := hp.v64
    obtain ⟨r, _, rfl⟩ := hc
    have := Nat.le_trans (List.length_filter_le r (List.range v)) (Nat.le_of_eq List.length_range)
    omega
  have hF1 : cyc (pt.nxF es q) (2 * es.length) ≤ 2 * es.length := by unfold cyc; exact Nat.le_trans (List.length_filter_le _ _) (by simp)
  refine ⟨rowsI (facesF (pt.nxF es q) (2 * es.length) (2 * es.length)), rowsI (facesF (pt.nxF es (q.map List.reverse)) (2 * es.length) (2 * es.length)), cyc (pt.nxF es q) (2 * es.length), g', ?_⟩
  refine ⟨by rw [rowsI_length, cyc_faces], by rw [rowsI_length, cyc_faces, hcy], by omega, fun z => ?_, hgb, fun u hu => ?_, fun u sa sc hu hs => ?_, fun u hu => ?_, fun u sa sc hu hs => ?_⟩
  · rw [cntL_faces, cntL_faces]
    exact (ro.mir hN hM _).1
  · refine (faces_good u v a es.length cap (toI es) (hE.below hu) ra m rc q (hr.below hu) hrot _ hN hpm ro.lt' ro.cov).mono ?_
    rintro e w' ⟨⟨va, vc, rfl, _, hr'⟩, hb⟩
    rw [cyc_faces] at hr' ⊢
    exact ⟨⟨va, vc, rfl, hr'⟩, hb⟩
  · rw [rowsI_rev] at hs
    refine (faces_good u v a es.length cap (toI es) (hE.below hu) sa m sc _ hs hyes' _ hM hpm' ro'.lt' ro'.cov).mono ?_
    rintro e w' ⟨⟨va, vc, rfl, _, hr'⟩, hb⟩
    rw [cyc_faces, ← hcy] at hr' ⊢
    exact ⟨⟨va, vc, rfl, hr'⟩, hb⟩
  · exact genus_good u (hT.below hu) v a es.length cap es (hE.below hu) rfl hp ra m rc q (hr.below hu) hrot ro _ hN c g' hc hgg
  · rw [rowsI_rev] at hs
    exact genus_good u (hT.below hu) v a es.length cap es (hE.below hu) rfl hp sa m sc _ hs hyes' ro' _ hM c g' hc hgg'

theorem law3 : Keyed Tryd.prog 3 := int_keyed Tryd.underlying3
theorem zero3 (w : World) : (zeroValue 3).run Tryd.prog w = .ok (.int .i64 0) w := by kernel_rfl
/-- a map of counts -/
def Sz (wr : World) (B n : Nat) (f : Int → Int) (D : DataW Unit) : Prop := wr.ownsMap Tryd.prog 3 (plainElem Tryd.prog 3) B n D ∧ IsMap D ∧ ∀ z : Int, D.atKey (.int .i64 z) (.lit (.int .i64 0)) = .lit (.int .i64 (f z))
theorem Sz.put {wr w' : World} {B n : Nat} {f : Int → Int} {D : DataW Unit} (h : Sz wr B n f D) (z v : Int) (ho : w'.ownsMap Tryd.prog 3 (plainElem Tryd.prog 3) B (n + 1) (D.put (.int .i64 z) (.lit (.int .i64 v)))) : Sz w' B (n + 1) (fun y => if y = z then v else f y) (D.put (.int .i64 z) (.lit (.int .i64 v))) := by
  refine ⟨ho, h.2.1.put _ _, fun y => ?_⟩
  show _ = DataW.lit (Lit.int .i64 (if y = z then v else f y))
  by_cases e : y = z
  · subst e
    rw [if_pos rfl]
    exact atKey_put_same (k := .int .i64 y) h.2.1 trivial _ _
  · rw [if_neg e, ← h.2.2 y]
    exact atKey_put_other (fun he => e (by cases he; rfl)) _ _
theorem Sz.congr {wr : World} {B n : Nat} {f f' : Int → Int} {D : DataW Unit} (h : Sz wr B n f D) (hf : ∀ z, f z = f' z) : Sz wr B n f' D := ⟨h.1, h.2.1, fun z => by rw [← hf]; exact h.2.2 z⟩
theorem Sz.at {wr : World} {B n : Nat} {f : Int → Int} {D : DataW Unit} (h : Sz wr B n f D) {z c : Int} (hat : D.atKey (.int .i64 z) (.lit (.int .i64 0)) = .lit (.int .i64 c)) : c = f z := by
  have := hat.symm.trans (h.2.2 z)
  cases this
  rfl
/-- how many more -/
def dif2 (Fa Fb : List (List Int)) (k : Nat) (z : Int) : Int := (cntL (Fa.take k) z : Int) - (cntL (Fb.take k) z : Int)
theorem dif2_bd (Fa Fb : List (List Int)) (k : Nat) (hk : k ≤ 1000) (z : Int) : -1000 ≤ dif2 Fa Fb k z ∧ dif2 Fa Fb k z ≤ 1000 := by
  have h1 := cntL_le (Fa.take k) z
  have h2 := cntL_le (Fb.take k) z
  rw [List.length_take] at h1 h2
  unfold dif2
  omega
theorem dif2_step {Fa Fb : List (List Int)} {k na nb : Nat} (ha : k < Fa.length) (hb : k < Fb.length) (hna : (Fa.getD k []).length = na) (hnb : (Fb.getD k []).length = nb) (z : Int) :
    (if z = (nb : Int) then (if (nb : Int) = (na : Int) then dif2 Fa Fb k na + 1 else dif2 Fa Fb k nb) - 1 else if z = (na : Int) then dif2 Fa Fb k na + 1 else dif2 Fa Fb k z) = dif2 Fa Fb (k + 1) z := by
  have e : dif2 Fa Fb (k + 1) z = dif2 Fa Fb k z + (if (na : Int) = z then 1 else 0) - (if (nb : Int) = z then 1 else 0) := by
    unfold dif2
    rw [cntL_snoc ha, cntL_snoc hb, hna, hnb]
    split <;> split <;> omega
  rw [e]
  by_cases h1 : z = (nb : Int)
  · subst h1
    rw [if_pos rfl, show (if (nb : Int) = nb then (1 : Int) else 0) = 1 from if_pos rfl]
    by_cases h2 : (nb : Int) = (na : Int)
    · rw [if_pos h2, show (if (na : Int) = nb then (1 : Int) else 0) = 1 from if_pos h2.symm, h2]
    · rw [if_neg h2, show (if (na : Int) = nb then (1 : Int) else 0) = 0 from if_neg fun h => h2 h.symm]
      omega
  · rw [if_neg h1, show (if (nb : Int) = z then (1 : Int) else 0) = 0 from if_neg fun h => h1 h.symm]
    by_cases h2 : z = (na : Int)
    · rw [if_pos h2, show (if (na : Int) = z then (1 : Int) else 0) = 1 from if_pos h2.symm, h2]
      omega
    · rw [if_neg h2, show (if (na : Int) = z then (1 : Int) else 0) = 0 from if_neg fun h => h2 h.symm]
      omega
theorem dif2_end {Fa Fb : List (List Int)} {F : Nat} (ha : Fa.length = F) (hb : Fb.length = F) (h : ∀ z, cntL Fa z = cntL Fb z) (z : Int) : dif2 Fa Fb F z = 0 := by
  unfold dif2
  rw [List.take_of_length_le (by omega), List.take_of_length_le (by omega), h z]
  omega
theorem Sz.start (w : World) : Sz (w.alloc (.map #[] 0)) w.heap.size 0 (fun _ => 0) (.map []) := ⟨World.ownsMap_made _ _ _ _, isMap_empty, fun z => rfl⟩
end Go.Proofs.YtmklngabfdnclaaDoor


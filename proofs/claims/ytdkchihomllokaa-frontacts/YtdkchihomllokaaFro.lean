/-
  A front in memory; the contract of whole. Conditions: as told.
-/
import Derived.Test.YtdkchihomllokaaDf
import Derived.Test.YtdkchihomllokaaSr9
namespace Go.Proofs.Ytdkchihomllokaa
open Go.RowKit
set_option linter.unusedVariables false
set_option maxRecDepth 20000

/-- how many edges go to each vertex -/
def insL (V : Nat) (es : List (Nat × Nat)) : List Nat := (List.range V).map fun x => (Pl.ins es x).length
theorem insL_len (V : Nat) (es : List (Nat × Nat)) : (insL V es).length = V := by simp [insL]
theorem insL_at (V : Nat) (es : List (Nat × Nat)) {x : Nat} (h : x < V) : (insL V es).getD x 0 = (Pl.ins es x).length := by
  simp [insL, List.getD_eq_getElem?_getD, h]
/-- the addresses that a front shares with its clones -/
structure Fs where
  vb : Nat
  ia : Option Addr
  ic : Nat
  ea : Option Addr
  ec : Nat
  oa : Option Addr
  oc : Nat
  ja : Option Addr
  jc : Nat
  ra : Option Addr
  rc : Nat
  ord : List Nat
/-- a front's view and counts, in memory -/
structure Sd (w : World) (V : Nat) (es : List (Nat × Nat)) (s : Fs) : Prop where
  view : Vw w s.vb V es s.ea s.ec s.oa s.oc s.ja s.jc s.ra s.rc s.ord
  ins : Ns w s.ia V (toIs (insL V es))
theorem Sd.below {w w' : World} {V : Nat} {es : List (Nat × Nat)} {s : Fs} (h : Sd w V es s) (hb : Below w.heap.size w w') : Sd w' V es s := ⟨h.view.below hb, h.ins.below hb⟩
/-- .. whatever is written: as long as all blocks below N but b0 stay -/
def Sn (N b0 : Nat) (w : World) (V : Nat) (es : List (Nat × Nat)) (s : Fs) : Prop := N ≤ w.heap.size ∧ ∀ w', N ≤ w'.heap.size → (∀ i, i < N → i ≠ b0 → w'.heap[i]? = w.heap[i]?) → Sd w' V es s
theorem Sn.sd {N b0 : Nat} {w : World} {V : Nat} {es : List (Nat × Nat)} {s : Fs} (h : Sn N b0 w V es s) : Sd w V es s := h.2 w h.1 fun _ _ _ => rfl
theorem Sn.keep {N b0 : Nat} {w w' : World} {V : Nat} {es : List (Nat × Nat)} {s : Fs} (h : Sn N b0 w V es s) (hN : N ≤ w'.heap.size) (hk : ∀ i, i < N → i ≠ b0 → w'.heap[i]? = w.heap[i]?) : Sn N b0 w' V es s :=
  ⟨hN, fun w2 h2 k2 => h.2 w2 h2 fun i hi hne => by rw [k2 i hi hne, hk i hi hne]⟩
theorem Sn.below {N b0 : Nat} {w w' : World} {V : Nat} {es : List (Nat × Nat)} {s : Fs} (h : Sn N b0 w V es s) (hb : Below w.heap.size w w') : Sn N b0 w' V es s :=
  h.keep (Nat.le_trans h.1 hb.size) fun i hi _ => hb.block i (Nat.lt_of_lt_of_le hi h.1)
/-- the front of a box: its row, what is placed -/
structure Fb (N : Nat) (w : World) (b : Nat) (V : Nat) (s : Fs) (ra : Option Addr) (rc : Nat) (row : List It) (pv : Value) (pl : List Nat) : Prop where
  box : w.heap[b]? = some (.cells #[.slice ra row.length rc, .pointer (some ⟨s.vb, 0, none⟩), .slice s.ia V s.ic, pv] 45 (0, 0))
  rno : ra = none → row.length = 0 ∧ rc = 0
  rcap : row.length ≤ rc
  rlo : ∀ g off, ra = some ⟨g, off, none⟩ → N ≤ g ∧ off = 0
  rne : ∀ g off, ra = some ⟨g, off, none⟩ → g ≠ b ∧ pv.ownBlock ≠ some g
  items : Is w ra row
  own : w.ownsRow N 3 1 pv pl.length (zcells (toIs pl))
  pne : pv.ownBlock ≠ some b
  small : row.length ≤ 400 ∧ pl.length ≤ 100
theorem Fb.lt {N : Nat} {w : World} {b V : Nat} {s : Fs} {ra : Option Addr} {rc : Nat} {row : List It} {pv : Value} {pl : List Nat} (h : Fb N w b V s ra rc row pv pl) : b < w.heap.size := (Array.getElem?_eq_some_iff.1 h.box).1
theorem Fb.cells {N : Nat} {w : World} {b V : Nat} {s : Fs} {ra : Option Addr} {rc : Nat} {row : List It} {pv : Value} {pl : List Nat} (h : Fb N w b V s ra rc row pv pl) :
    w.cell? ⟨b, 0, none⟩ = some (.slice ra row.length rc) ∧ w.cell? ⟨b, 1, none⟩ = some (.pointer (some ⟨s.vb, 0, none⟩)) ∧ w.cell? ⟨b, 2, none⟩ = some (.slice s.ia V s.ic) ∧ w.cell? ⟨b, 3, none⟩ = some pv := by
  have h1 := h.box
  simp [World.cell?, h1]
theorem Fb.fz {N : Nat} {w : World} {b V : Nat} {s : Fs} {ra : Option Addr} {rc : Nat} {row : List It} {pv : Value} {pl : List Nat} (h : Fb N w b V s ra rc row pv pl) (o : Nat) : w.frozen? ⟨b, o, none⟩ = false := by
  have h1 := h.box
  simp [World.frozen?, h1]
theorem Fb.keep {N : Nat} {w w' : World} {b V : Nat} {s : Fs} {ra : Option Addr} {rc : Nat} {row : List It} {pv : Value} {pl : List Nat} (h : Fb N w b V s ra rc row pv pl) (hs : w.heap.size ≤ w'.heap.size)
    (h1 : w'.heap[b]? = w.heap[b]?) (h2 : ∀ g off, ra = some ⟨g, off, none⟩ → w'.heap[g]? = w.heap[g]?) (h3 : ∀ g, pv.ownBlock = some g → w'.heap[g]? = w.heap[g]?) : Fb N w' b V s ra rc row pv pl :=
  ⟨by rw [h1]; exact h.box, h.rno, h.rcap, h.rlo, h.rne, Cr.keep h.items hs (fun g off he _ => h2 g off he), owns_keep h.own h3, h.pne, h.small⟩
theorem Fb.rlt {N : Nat} {w : World} {b V : Nat} {s : Fs} {ra : Option Addr} {rc : Nat} {row : List It} {pv : Value} {pl : List Nat} (h : Fb N w b V s ra rc row pv pl) (hr : row ≠ []) : ∀ g off, ra = some ⟨g, off, none⟩ → g < w.heap.size := by
  intro g off he
  obtain ⟨g', off', he', hg, _⟩ := h.items.2.2 0 (by have := List.length_pos_iff.2 hr; omega)
  rw [he] at he'
  cases he'
  exact hg
theorem Is.keep0 {w w' : World} {a : Option Addr} {l : List It} (h : Is w a l) (hs : w.heap.size ≤ w'.heap.size) (hk : ∀ g off, a = some ⟨g, off, none⟩ → g < w.heap.size → w'.heap[g]? = w.heap[g]?) : Is w' a l := Cr.keep h hs hk
theorem Fb.below {N : Nat} {w w' : World} {b V : Nat} {s : Fs} {ra : Option Addr} {rc : Nat} {row : List It} {pv : Value} {pl : List Nat} (h : Fb N w b V s ra rc row pv pl) (hb : Below w.heap.size w w') : Fb N w' b V s ra rc row pv pl :=
  ⟨by rw [hb.block _ h.lt]; exact h.box, h.rno, h.rcap, h.rlo, h.rne, h.items.below hb, owns_keep h.own (fun g hg => hb.block g (h.own.lt g hg).2), h.pne, h.small⟩

/-- of a row: its edges go to vertices -/
def RowOk (V : Nat) (row : List It) : Prop := ∀ t ∈ row, t.1 ≠ -1 → 0 ≤ t.2.2 ∧ t.2.2 < V
theorem bnStep_heads {V : Nat} {bs : List Bn} {i : Nat} {t : It} (h : ∀ b ∈ bs, 0 ≤ b.head ∧ b.head < V) (ht : t.1 ≠ -1 → 0 ≤ t.2.2 ∧ t.2.2 < V) : ∀ b ∈ bnStep bs i t, 0 ≤ b.head ∧ b.head < V := by
  unfold bnStep
  split
  · exact h
  · rename_i hne
    split
    · intro b hb
      rcases List.mem_append.1 hb with hb | hb
      · exact h b hb
      · rw [List.mem_singleton.1 hb]; exact ht hne
    · rename_i b1 hb1
      have hm := List.mem_of_mem_getLast? hb1
      split
      · intro b hb
        rcases List.mem_append.1 hb with hb | hb
        · exact h b ((List.dropLast_sublist _).subset hb)
        · rw [List.mem_singleton.1 hb]; exact h b1 hm
      · intro b hb
        rcases List.mem_append.1 hb with hb | hb
        · exact h b hb
        · rw [List.mem_singleton.1 hb]; exact ht hne
theorem bnK_heads {V : Nat} {row : List It} (h : RowOk V row) : ∀ k, k ≤ row.length → ∀ b ∈ bnK row k, 0 ≤ b.head ∧ b.head < V
  | 0, _ => fun b hb => by simp [bnK] at hb
  | k + 1, hk => bnStep_heads (bnK_heads h k (by omega)) (fun hne => h _ (by rw [List.getD_eq_getElem?_getD, List.getElem?_eq_getElem (show k < row.length by omega)]; exact List.getElem_mem _) hne)

/-- all edges to each vertex that is ready -/
def wholeF (V : Nat) (es : List (Nat × Nat)) (src : Nat) (row : List It) (pl : List Nat) : List Bn := if pl.length = 0 then [⟨src, 0, 0, 0⟩] else (bnF row).filter fun b => !few (insL V es) b
theorem wholeF_len (V : Nat) (es : List (Nat × Nat)) (src : Nat) (row : List It) (pl : List Nat) : (wholeF V es src row pl).length ≤ row.length + 1 := by
  unfold wholeF
  split
  · simp
  · have := List.length_filter_le (fun b => !few (insL V es) b) (bnF row)
    have := bnK_len row row.length
    unfold bnF at *
    omega

set_option maxHeartbeats 4000000 in
theorem whole_any (w : World) (N b V : Nat) (es : List (Nat × Nat)) (s : Fs) (ra : Option Addr) (rc : Nat) (row : List It) (pv : Value) (pl : List Nat) (hF : Fb N w b V s ra rc row pv pl) (hD : Sd w V es s) (hp : Plain V es) (src : Nat) (hsrc : bare (Pl.ins es) V = [src]) (hR : RowOk V row) (hi : ∀ g off, s.ia = some ⟨g, off, none⟩ → g < w.heap.size) :
    Calls Try.prog 32 #[.pointer (some ⟨b, 0, none⟩)] w fun e w' => (∃ a c, e = .returned (.slice a (wholeF V es src row pl).length c) ∧ Bs w' a (wholeF V es src row pl) ∧ ∀ g off, a = some ⟨g, off, none⟩ → w.heap.size ≤ g) ∧ Below w.heap.size w w' := by
  obtain ⟨c0, c1, c2, c3⟩ := hF.cells
  obtain ⟨pa, pc, rfl⟩ := own_shape hF.own
  have hbl := hF.lt
  obtain ⟨m, hm⟩ : ∃ m, pl.length = m := ⟨_, rfl⟩
  have hsm := hF.small
  by_cases hz : m = 0
  · rw [show wholeF V es src row pl = [⟨src, 0, 0, 0⟩] by unfold wholeF; rw [if_pos (by rw [hm]; exact hz)]]
    rw [hm, hz] at c3
    have C := hide (sources_any (w.alloc (.cells #[.pointer (some ⟨b, 0, none⟩)] 27)) s.vb V es _ _ _ _ _ _ _ _ _ (hD.view.below ((Below.refl _ _).alloc (Nat.le_refl _) _)) hp.v64)
    rw [hsrc] at C
    have d1 : (w.alloc (.cells #[.pointer (some ⟨b, 0, none⟩)] 27)).cell? ⟨b, 1, none⟩ = some (.pointer (some ⟨s.vb, 0, none⟩)) := by rw [cell_old _ _ _ hbl]; exact c1
    have d3 : (w.alloc (.cells #[.pointer (some ⟨b, 0, none⟩)] 27)).cell? ⟨b, 3, none⟩ = some (.slice pa 0 pc) := by rw [cell_old _ _ _ hbl]; exact c3
    clear hF hD hm c0 c1 c2 c3 hsrc
    go_enter Try.func32, Try.ntmps32
    go_wp2_with fail
    refine (unhide C).mono ?_
    rintro e w1 ⟨⟨v, rfl, ho⟩, hb1⟩
    have ho' : w1.ownsRow (w.alloc (.cells #[.pointer (some ⟨b, 0, none⟩)] 27)).heap.size 3 1 v 1 [.int .i64 (src : Nat)] := ho
    obtain ⟨g, c, rfl⟩ := own_form ho' (by omega)
    have k0 : w1.cell? ⟨g, 0, none⟩ = some (.int .i64 (src : Nat)) := by rw [ho'.cellAt 0 (by omega)]; rfl
    have hbb : Below w.heap.size w w1 := ((Below.refl _ _).alloc (Nat.le_refl _) _).trans (hb1.mono (by simp))
    have HB := hide hbb
    have hsz := hbb.size
    clear ho ho' hb1 hbb C d1 d3
    go_wp2_with fail
    go_ret
    refine ⟨⟨some ⟨w1.heap.size, 0, none⟩, 1, rfl, ⟨rfl, by simp, fun j hj => ⟨w1.heap.size, 0, rfl, by simp, ?_⟩⟩, fun g' off he => (by cases he; exact hsz)⟩, (unhide HB).alloc hsz _⟩
    have hj' : j < 4 := by simpa using hj
    match j, hj' with
    | 0, _ => simp [bcells]
    | 1, _ => simp [bcells]
    | 2, _ => simp [bcells]
    | 3, _ => simp [bcells]
  · rw [show wholeF V es src row pl = (bnF row).filter fun b => !few (insL V es) b by unfold wholeF; rw [if_neg (by rw [hm]; exact hz)]]
    rw [hm] at c3
    have hm0 : ((m : Int) == 0) = false := by rw [beq_eq_false_iff_ne]; omega
    have hb0 : Below w.heap.size w (w.alloc (.cells #[.pointer (some ⟨b, 0, none⟩)] 27)) := (Below.refl _ _).alloc (Nat.le_refl _) _
    have d0 : (w.alloc (.cells #[.pointer (some ⟨b, 0, none⟩)] 27)).cell? ⟨b, 0, none⟩ = some (.slice ra row.length rc) := by rw [cell_old _ _ _ hbl]; exact c0
    have C := hide (bunches_any (w.alloc (.cells #[.pointer (some ⟨b, 0, none⟩)] 27)) b ra rc row d0 (hF.items.below hb0) (by omega))
    have hx1 : (w.alloc (.cells #[.pointer (some ⟨b, 0, none⟩)] 27)).heap[w.heap.size]? = some (.cells #[.pointer (some ⟨b, 0, none⟩)] 27 (0, 0)) := (MapKept.heap_alloc w _).1
    have HX1 := hide hx1
    have d3 : (w.alloc (.cells #[.pointer (some ⟨b, 0, none⟩)] 27)).cell? ⟨b, 3, none⟩ = some (.slice pa m pc) := by rw [cell_old _ _ _ hbl]; exact c3
    have HC2 := hide c2
    have HNS := hide hD.ins
    have HR := hide hR
    have HB0 := hide hb0
    have HI := hide hi
    have hrl : row.length ≤ 400 := hsm.1
    have HBL := hide hbl
    clear hF hD hm c0 c1 c2 c3 hx1 hb0 d0 hR hi hsm
    go_enter Try.func32, Try.ntmps32
    go_wp2_with fail
    refine (unhide C).mono ?_
    rintro e w1 ⟨⟨v, rfl, ho⟩, hb1⟩
    have hsz1 : (w.alloc (.cells #[.pointer (some ⟨b, 0, none⟩)] 27)).heap.size = w.heap.size + 1 := by simp
    rw [hsz1] at ho hb1
    have hB1 : Below w.heap.size w w1 := (unhide HB0).trans (hb1.mono (by omega))
    have hwl : w.heap.size < w1.heap.size := by have := hb1.size; rw [hsz1] at this; omega
    have q0 : w1.cell? ⟨w.heap.size, 0, none⟩ = some (.pointer (some ⟨b, 0, none⟩)) := by
      have : w1.heap[w.heap.size]? = some (.cells #[.pointer (some ⟨b, 0, none⟩)] 27 (0, 0)) := by rw [hb1.block _ (by omega)]; exact unhide HX1
      simp [World.cell?, this]
    have q2 : w1.cell? ⟨b, 2, none⟩ = some (.slice s.ia V s.ic) := by rw [hB1.cell (p := ⟨b, 2, none⟩) (unhide HBL)]; exact unhide HC2
    have hbn : (bnF row).length ≤ 1000 := by have := bnK_len row row.length; unfold bnF; omega
    have C2 := hide (delFew_any w1 (w.heap.size + 1) (bnF row) v ho hbn w.heap.size b V s.ic s.ia (insL V es) q0 q2 ((unhide HNS).below hB1) (bnK_heads (unhide HR) _ (Nat.le_refl _)) (by omega) (by have := unhide HBL; omega) (fun g off he => by have := unhide HI g off he; omega) (by omega))
    have HB1 := hide hB1
    clear ho hb1 hsz1 hB1 q0 q2 C
    go_wp2_with fail
    refine (unhide C2).mono ?_
    rintro e w2 ⟨⟨a, c, rfl, hBs, hlo2⟩, hb2⟩
    have HBS := hide hBs
    have HLO2 := hide hlo2
    have HB2 := hide ((unhide HB1).trans (hb2.mono (by omega)))
    clear hBs hb2 C2 hlo2
    go_wp2_with fail
    go_ret
    exact ⟨⟨a, c, rfl, unhide HBS, fun g off he => by have := unhide HLO2 g off he; omega⟩, unhide HB2⟩
end Go.Proofs.Ytdkchihomllokaa


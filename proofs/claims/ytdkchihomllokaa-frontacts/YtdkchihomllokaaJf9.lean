/-
  What stays while both fronts go on; the vertices that are ready, rising. No conditions.
-/
import Derived.Test.YtdkchihomllokaaJt9
import Derived.Test.YtdkchihomllokaaOa9
namespace Go.Proofs.Ytdkchihomllokaa
open Go.RowKit
set_option linter.unusedVariables false
set_option maxRecDepth 20000

/-- all from block B on stays -/
structure Kp (B : Nat) (w w' : World) : Prop where
  size : w.heap.size ≤ w'.heap.size
  far : ∀ i, B ≤ i → i < w.heap.size → w'.heap[i]? = w.heap[i]?
theorem Kp.bel {B : Nat} {w w' : World} (h : Below w.heap.size w w') : Kp B w w' := ⟨h.size, fun i _ hi => h.block i hi⟩
theorem Kp.bz {B B' : Nat} {S : Nat → Prop} {w w' : World} (h : Bz B' S w w') (hS : ∀ i, S i → i < B) : Kp B w w' :=
  ⟨h.size, fun i hi hl => h.far i hl (fun hs => by have := hS i hs; omega)⟩
/-- a row of items, of an int list, from block B on -/
def Vk (B : Nat) (w : World) (v : Value) (l : List It) : Prop := w.ownsRow B 72 3 v l.length (icells l)
def Pk (B : Nat) (w : World) (v : Value) (l : List Nat) : Prop := w.ownsRow B 3 1 v l.length (zcells (toIs l))
theorem Vk.keep {B : Nat} {w w' : World} {v : Value} {l : List It} (h : Vk B w v l) (k : Kp B w w') : Vk B w' v l :=
  owns_keep h fun g hg => k.far g (h.lt g hg).1 (h.lt g hg).2
theorem Pk.keep {B : Nat} {w w' : World} {v : Value} {l : List Nat} (h : Pk B w v l) (k : Kp B w w') : Pk B w' v l :=
  owns_keep h fun g hg => k.far g (h.lt g hg).1 (h.lt g hg).2
theorem owns_base {B B' : Nat} {w : World} {e : TypeId} {s : Nat} {v : Value} {n : Nat} {xs : List Value} (h : w.ownsRow B' e s v n xs) (hB : B ≤ B') : w.ownsRow B e s v n xs := by
  refine ⟨h.1, ?_⟩
  rcases h.2 with h2 | ⟨g, cap, cur, hv, hb, h3⟩
  · exact .inl h2
  · exact .inr ⟨g, cap, cur, hv, Nat.le_trans hB hb, h3⟩
theorem Vk.is {B : Nat} {w : World} {a : Option Addr} {c : Nat} {l : List It} (h : Vk B w (.slice a l.length c) l) (hl : l.length ≤ 400) : Is w a l := by
  obtain ⟨a', c', hv, _, _, hI, _⟩ := cr_of_owns h (by omega)
  cases hv
  exact hI
theorem Pk.ns {B : Nat} {w : World} {a : Option Addr} {c n : Nat} {l : List Nat} (h : Pk B w (.slice a n c) l) (hl : l.length ≤ 400) : Ns w a l.length (toIs l) := by
  obtain ⟨a', c', hv, _, hN⟩ := ns_of_owns h (by omega)
  cases hv
  exact hN
/-- a front that isn't touched -/
def Ol (B N V : Nat) (s : Fs) (row : List It) (pl : List Nat) (w : World) (o : Nat) : Prop :=
  ∃ ra rc pv, Fb N w o V s ra rc row pv pl ∧ (row = [] → ra = none) ∧ B ≤ o ∧ (∀ g off, ra = some ⟨g, off, none⟩ → B ≤ g) ∧ ∀ g, pv.ownBlock = some g → B ≤ g
theorem Ol.keep {B N V : Nat} {s : Fs} {row : List It} {pl : List Nat} {w w' : World} {o : Nat} (h : Ol B N V s row pl w o) (k : Kp B w w') : Ol B N V s row pl w' o := by
  obtain ⟨ra, rc, pv, hF, h1, h2, h3, h4⟩ := h
  refine ⟨ra, rc, pv, hF.keep k.size (k.far o h2 hF.lt) (fun g off he => ?_) (fun g hg => k.far g (h4 g hg) (hF.own.lt g hg).2), h1, h2, h3, h4⟩
  by_cases hr : row = []
  · rw [h1 hr] at he; cases he
  · exact k.far g (h3 g off he) (hF.rlt hr g off he)
/-- the box of an act -/
def Ab (B : Nat) (w : World) (xb : Nat) (x : Int) (ak : Option Addr) (lk ck : Nat) : Prop := B ≤ xb ∧ w.heap[xb]? = some (.cells #[.int .i64 x, .slice ak lk ck] 38 (0, 0))
theorem Ab.keep {B : Nat} {w w' : World} {xb : Nat} {x : Int} {ak : Option Addr} {lk ck : Nat} (h : Ab B w xb x ak lk ck) (k : Kp B w w') : Ab B w' xb x ak lk ck :=
  ⟨h.1, by rw [k.far xb h.1 (Array.getElem?_eq_some_iff.1 h.2).1]; exact h.2⟩
theorem Ab.cells {B : Nat} {w : World} {xb : Nat} {x : Int} {ak : Option Addr} {lk ck : Nat} (h : Ab B w xb x ak lk ck) : w.cell? ⟨xb, 0, none⟩ = some (.int .i64 x) ∧ w.cell? ⟨xb, 1, none⟩ = some (.slice ak lk ck) := by
  have := h.2
  simp [World.cell?, this]
/-- those below k of which P holds, rising -/
def IsR (P : Nat → Prop) (k : Nat) (l : List Nat) : Prop := l.Pairwise (· < ·) ∧ ∀ x, x ∈ l ↔ x < k ∧ P x
theorem IsR.zero (P : Nat → Prop) : IsR P 0 [] := ⟨List.Pairwise.nil, fun x => by simp⟩
theorem IsR.yes {P : Nat → Prop} {k : Nat} {l : List Nat} (h : IsR P k l) (hp : P k) : IsR P (k + 1) (l ++ [k]) := by
  refine ⟨List.pairwise_append.2 ⟨h.1, List.pairwise_singleton _ _, fun a ha b hb => ?_⟩, fun x => ?_⟩
  · rw [List.mem_singleton] at hb
    subst hb
    exact ((h.2 a).1 ha).1
  · rw [List.mem_append, List.mem_singleton, h.2 x]
    constructor
    · rintro (⟨h1, h2⟩ | rfl)
      · exact ⟨by omega, h2⟩
      · exact ⟨by omega, hp⟩
    · rintro ⟨h1, h2⟩
      by_cases e : x = k
      · exact .inr e
      · exact .inl ⟨by omega, h2⟩
theorem IsR.no {P : Nat → Prop} {k : Nat} {l : List Nat} (h : IsR P k l) (hp : ¬ P k) : IsR P (k + 1) l := by
  refine ⟨h.1, fun x => ?_⟩
  rw [h.2 x]
  constructor
  · rintro ⟨h1, h2⟩
    exact ⟨by omega, h2⟩
  · rintro ⟨h1, h2⟩
    refine ⟨?_, h2⟩
    by_cases e : x = k
    · subst e; exact absurd h2 hp
    · omega
theorem IsR.nodup {P : Nat → Prop} {k : Nat} {l : List Nat} (h : IsR P k l) : l.Nodup := h.1.imp fun h => by omega
theorem IsR.len {P : Nat → Prop} {k : Nat} {l : List Nat} (h : IsR P k l) : l.length ≤ k := by
  have := nodup_sub l (List.range k) h.nodup (fun x hx => List.mem_range.2 ((h.2 x).1 hx).1)
  simpa using this

theorem heads_nodup {V : Nat} {es : List (Nat × Nat)} {src : Nat} {row : List It} {pl : List Nat} (h : Inv V es src row pl) (hp : Plain V es) : ((wholeF V es src row pl).map Bn.head).Nodup := by
  by_cases hpl : pl = []
  · subst hpl
    simp [wholeF]
  · have hw := fun (b : Bn) (hb : b ∈ wholeF V es src row pl) => whole_ready h hp hb hpl
    have h1 : (bnF row).Pairwise (fun b b' => b.hi ≤ b'.lo) := by
      rw [List.pairwise_iff_getElem]
      intro i j hi hj hij
      have := (BO.of row row.length).ord i j hij hj
      rw [List.getD_eq_getElem?_getD, List.getD_eq_getElem?_getD, List.getElem?_eq_getElem (show i < (bnK row row.length).length from hi), List.getElem?_eq_getElem (show j < (bnK row row.length).length from hj)] at this
      exact this
    have h2 : (wholeF V es src row pl).Pairwise (fun b b' => b.hi ≤ b'.lo) := by
      unfold wholeF
      rw [if_neg (by intro e; exact hpl (List.length_eq_zero_iff.1 e))]
      exact h1.filter _
    unfold List.Nodup
    rw [List.pairwise_map]
    refine h2.imp_of_mem fun {b b'} hb hb' hle he => ?_
    obtain ⟨y, hy, hr, hl, hh⟩ := hw b hb
    obtain ⟨y', hy', hr', hl', hh'⟩ := hw b' hb'
    obtain rfl : y' = y := by omega
    have := congrArg List.length (hr.only hr').1
    simp at this
    omega
theorem IsR.srt {V : Nat} {es : List (Nat × Nat)} {src : Nat} {row : List It} {pl : List Nat} {l : List Nat} (hr : IsR (ReadyAt V es src row pl) V l) (h : Inv V es src row pl) (hp : Plain V es) (hsrc : bare (Pl.ins es) V = [src]) : srtZ ((wholeF V es src row pl).map Bn.head) = toIs l := by
  have h1 : (srtZ ((wholeF V es src row pl).map Bn.head)).Pairwise (· ≤ ·) := by
    unfold srtZ
    have := List.pairwise_mergeSort (le := fun x y : Int => decide (x ≤ y)) (fun a b c h1 h2 => by simp at *; omega) (fun a b => by simp; omega) ((wholeF V es src row pl).map Bn.head)
    exact this.imp fun h => by simpa using h
  have h2 : (toIs l).Pairwise (· ≤ ·) := by
    unfold toIs
    rw [List.pairwise_map]
    exact hr.1.imp fun h => by omega
  have hm : ∀ z, z ∈ (wholeF V es src row pl).map Bn.head ↔ z ∈ toIs l := fun z => by
    constructor
    · intro hz
      obtain ⟨b, hb, rfl⟩ := List.mem_map.1 hz
      obtain ⟨y, hy, hyV, hyR⟩ := whole_is h hp hsrc b hb
      rw [hy]
      exact List.mem_map.2 ⟨y, (hr.2 y).2 ⟨hyV, hyR⟩, rfl⟩
    · intro hz
      obtain ⟨y, hy, rfl⟩ := List.mem_map.1 hz
      rcases ((hr.2 y).1 hy).2 with ⟨h3, rfl⟩ | ⟨h3, A, Y, C, h4⟩
      · subst h3
        simp [wholeF]
      · obtain ⟨b, hb, he, _⟩ := ready_whole (src := src) h3 h4
        exact List.mem_map.2 ⟨b, hb, he⟩
  have hn := heads_nodup h hp
  have hn2 := toIs_nodup hr.nodup
  have hl := nodup_sub _ _ hn2 (fun z hz => (hm z).2 hz)
  exact List.Perm.eq_of_pairwise (le := (· ≤ ·)) (fun a b _ _ h1 h2 => by omega) h1 h2 ((srtZ_perm _).trans (perm_of_sub _ _ hn (fun z hz => (hm z).1 hz) hl))
end Go.Proofs.Ytdkchihomllokaa
/-
  The contract of the document's Tangled. Conditions: the document's front lies in memory as told.
-/
namespace Go.Proofs.Ytdkchihomllokaa
open Go.RowKit
set_option linter.unusedVariables false
set_option maxRecDepth 20000

theorem cons_sub {row L : List It} {a k : Nat} (ha : a < row.length) (hk : k ≤ a) (h : L.Sublist (row.drop (a + 1))) : (row.getD a (0, 0, 0) :: L).Sublist (row.drop k) := by
  have h1 : (row.drop a).Sublist (row.drop k) := by
    have : row.drop a = (row.drop k).drop (a - k) := by rw [List.drop_drop]; congr 1; omega
    rw [this]
    exact List.drop_sublist _ _
  refine List.Sublist.trans ?_ h1
  rw [List.drop_eq_getElem_cons ha, gd ha]
  exact h.cons_cons _
theorem sub_cons {row L : List It} {x : It} {k : Nat} (h : (x :: L).Sublist (row.drop k)) : ∃ i, k ≤ i ∧ i < row.length ∧ row.getD i (0, 0, 0) = x ∧ L.Sublist (row.drop (i + 1)) := by
  obtain ⟨r1, r2, e, hx, hL⟩ := List.cons_sublist_iff.1 h
  obtain ⟨j, hj, rfl⟩ := List.mem_iff_getElem.1 hx
  have hlen : row.length - k = r1.length + r2.length := by rw [← List.length_drop, e, List.length_append]
  refine ⟨k + j, by omega, by omega, ?_, ?_⟩
  · have h1 : (row.drop k)[j]? = r1[j]? := by rw [e, List.getElem?_append_left hj]
    rw [List.getElem?_drop] at h1
    rw [List.getD_eq_getElem?_getD, h1, List.getElem?_eq_getElem hj]
    rfl
  · have h2 : r2 = row.drop (k + r1.length) := by rw [← List.drop_drop, e, List.drop_left]
    rw [h2] at hL
    refine hL.trans ?_
    have : row.drop (k + r1.length) = (row.drop (k + j + 1)).drop (r1.length - j - 1) := by rw [List.drop_drop]; congr 1; omega
    rw [this]
    exact List.drop_sublist _ _
/-- by turns, at four places -/
def At4 (row : List It) (a b c d : Nat) : Prop := 0 ≤ hdE row a ∧ 0 ≤ hdE row b ∧ hdE row a ≠ hdE row b ∧ hdE row a = hdE row c ∧ hdE row b = hdE row d
theorem tg_at (row : List It) : TgR row ↔ ∃ a b c d, a < b ∧ b < c ∧ c < d ∧ d < row.length ∧ At4 row a b c d := by
  constructor
  · rintro ⟨x, y, z, u, hs, h1, h2, h3, h4, h5⟩
    have h0 : [x, y, z, u].Sublist (row.drop 0) := hs
    obtain ⟨a, _, ha, rfl, k1⟩ := sub_cons h0
    obtain ⟨b, hb1, hb, rfl, k2⟩ := sub_cons k1
    obtain ⟨c, hc1, hc, rfl, k3⟩ := sub_cons k2
    obtain ⟨d, hd1, hd, rfl, _⟩ := sub_cons k3
    exact ⟨a, b, c, d, by omega, by omega, by omega, hd, h1, h2, h3, h4, h5⟩
  · rintro ⟨a, b, c, d, hab, hbc, hcd, hd, h1, h2, h3, h4, h5⟩
    refine ⟨_, _, _, _, ?_, h1, h2, h3, h4, h5⟩
    exact cons_sub (k := 0) (by omega) (by omega) (cons_sub (by omega) (by omega) (cons_sub (by omega) (by omega) (cons_sub hd (by omega) (List.nil_sublist _))))

theorem sameI_yes (w : World) (a1 a2 : Option Addr) (n c1 c2 : Nat) (xs : List Int) (h1 : Ns w a1 n xs) (h2 : Ns w a2 n xs) :
    Calls Try.prog 16 #[.slice a1 n c1, .slice a2 n c2] w fun e w' => e = .returned (.bool true) ∧ Below w.heap.size w w' := by
  refine (same_yes w a1 a2 n c1 c2 xs h1 h2).mono ?_
  rintro e w' ⟨rfl, m, rfl⟩
  exact ⟨rfl, below_draws (Below.refl _ _) _⟩

set_option maxHeartbeats 16000000 in
theorem refTangled_any (w : World) (rb V : Nat) (a : Option Addr) (cap : Nat) (es : List (Nat × Nat)) (ra : Option Addr) (rc : Nat) (row : List It) (pa : Option Addr) (pc : Nat) (pl : List Nat) (hR : Rb w rb V a cap es ra rc row pa pc pl) (hn : row.length ≤ 1000) :
    Calls Try.prog 21 #[.pointer (some ⟨rb, 0, none⟩)] w fun e w' => Told (TgR row) e ∧ Below w.heap.size w w' := by
  obtain ⟨_, _, c2, _, _⟩ := hR.cells
  have HI := hide hR.items
  obtain ⟨n, hn'⟩ : ∃ n, row.length = n := ⟨_, rfl⟩
  have HN := hide hn'
  have HTG := hide (tg_at row)
  rw [hn'] at c2 hn HTG
  have HCL := hide (show ∀ k, k < n → ∃ g off, ra = some ⟨g, off, none⟩ ∧ w.cell? ⟨g, off + k * 3 + 2, none⟩ = some (.int .i64 (hdE row k)) from fun k hk => by
    obtain ⟨g, off, ha, _, _, _, e2⟩ := hR.items.at (show k < row.length by omega)
    exact ⟨g, off, ha, e2⟩)
  clear hR hn'
  go_enter Try.func21, Try.ntmps21
  go_wp2_with fail
  go_loopw [4] (fun i wr => ∃ x m : Nat, i = .int .i64 x ∧ x ≤ n ∧ wr = w.drewN m ∧ Hid (∀ a, a < x → ∀ b c d, a < b → b < c → c < d → d < n → ¬ At4 row a b c d)) (fun i wr => n - (intOf i).toNat)
  case atStart => exact ⟨0, 0, rfl, by omega, rfl, fun a ha => by omega⟩
  case round =>
    obtain ⟨x, mx, rfl, hx, rfl, HA⟩ := hrel
    by_cases hxn : x < n
    · have hxi : (x : Int) < (n : Int) := by omega
      have hwx : IntKind.i64.wrap ((x : Int) + 1) = ((x + 1 : Nat) : Int) := by rw [IntKind.wrap_i64]; omega
      go_wp2_with fail
      go_loopw [5] (fun i wr => ∃ y m : Nat, i = .int .i64 y ∧ x < y ∧ y ≤ n ∧ wr = w.drewN m ∧ Hid (∀ b, x < b → b < y → ∀ c d, b < c → c < d → d < n → ¬ At4 row x b c d)) (fun i wr => n - (intOf i).toNat)
      case atStart => exact ⟨x + 1, mx, by go_num, by omega, by omega, rfl, fun b h1 h2 => by omega⟩
      case round =>
        obtain ⟨y, my, rfl, hxy, hy, rfl, HB⟩ := hrel
        by_cases hyn : y < n
        · have hyi : (y : Int) < (n : Int) := by omega
          have hwy : IntKind.i64.wrap ((y : Int) + 1) = ((y + 1 : Nat) : Int) := by rw [IntKind.wrap_i64]; omega
          go_wp2_with fail
          go_loopw [6] (fun i wr => ∃ z m : Nat, i = .int .i64 z ∧ y < z ∧ z ≤ n ∧ wr = w.drewN m ∧ Hid (∀ c, y < c → c < z → ∀ d, c < d → d < n → ¬ At4 row x y c d)) (fun i wr => n - (intOf i).toNat)
          case atStart => exact ⟨y + 1, my, by go_num, by omega, by omega, rfl, fun c h1 h2 => by omega⟩
          case round =>
            obtain ⟨z, mz, rfl, hyz, hz, rfl, HC⟩ := hrel
            by_cases hzn : z < n
            · have hzi : (z : Int) < (n : Int) := by omega
              have hwz : IntKind.i64.wrap ((z : Int) + 1) = ((z + 1 : Nat) : Int) := by rw [IntKind.wrap_i64]; omega
              go_wp2_with fail
              go_loopw [7] (fun i wr => ∃ u m : Nat, i = .int .i64 u ∧ z < u ∧ u ≤ n ∧ wr = w.drewN m ∧ Hid (∀ d, z < d → d < u → ¬ At4 row x y z d)) (fun i wr => n - (intOf i).toNat)
              case atStart => exact ⟨z + 1, mz, by go_num, by omega, by omega, rfl, fun d h1 h2 => by omega⟩
              case round =>
                obtain ⟨u, mu, rfl, hzu, hu, rfl, HD⟩ := hrel
                by_cases hun : u < n
                · have hui : (u : Int) < (n : Int) := by omega
                  have hwu : IntKind.i64.wrap ((u : Int) + 1) = ((u + 1 : Nat) : Int) := by rw [IntKind.wrap_i64]; omega
                  obtain ⟨g, off, ha, cx⟩ := unhide HCL x hxn
                  subst ha
                  have cy : w.cell? ⟨g, off + y * 3 + 2, none⟩ = some (.int .i64 (hdE row y)) := by
                    obtain ⟨g', off', e, c⟩ := unhide HCL y hyn
                    cases e
                    exact c
                  have cz : w.cell? ⟨g, off + z * 3 + 2, none⟩ = some (.int .i64 (hdE row z)) := by
                    obtain ⟨g', off', e, c⟩ := unhide HCL z hzn
                    cases e
                    exact c
                  have cu : w.cell? ⟨g, off + u * 3 + 2, none⟩ = some (.int .i64 (hdE row u)) := by
                    obtain ⟨g', off', e, c⟩ := unhide HCL u hun
                    cases e
                    exact c
                  obtain ⟨va, hva⟩ : ∃ va, hdE row x = va := ⟨_, rfl⟩
                  obtain ⟨vb, hvb⟩ : ∃ vb, hdE row y = vb := ⟨_, rfl⟩
                  obtain ⟨vc, hvc⟩ : ∃ vc, hdE row z = vc := ⟨_, rfl⟩
                  obtain ⟨vd, hvd⟩ : ∃ vd, hdE row u = vd := ⟨_, rfl⟩
                  rw [hva] at cx
                  rw [hvb] at cy
                  rw [hvc] at cz
                  rw [hvd] at cu
                  have HIF := hide (show At4 row x y z u ↔ (0 ≤ va ∧ 0 ≤ vb ∧ va ≠ vb ∧ va = vc ∧ vb = vd) by rw [← hva, ← hvb, ← hvc, ← hvd]; exact Iff.rfl)
                  clear hva hvb hvc hvd
                  have FIN : ¬ (0 ≤ va ∧ 0 ≤ vb ∧ va ≠ vb ∧ va = vc ∧ vb = vd) → Hid (∀ d, z < d → d < u + 1 → ¬ At4 row x y z d) := fun hno d h1 h2 => by
                    by_cases e : d < u
                    · exact unhide HD d h1 e
                    · obtain rfl : d = u := by omega
                      exact fun h => hno ((unhide HIF).1 h)
                  have HFIN := hide FIN
                  clear FIN
                  by_cases b1 : 0 ≤ va
                  · by_cases b2 : 0 ≤ vb
                    · by_cases b3 : va = vb
                      · go_wp2_with fail
                        go_quiet (fail)
                        go_wp2_with fail
                        go_roundw
                        case rel => exact ⟨u + 1, _, by go_num, by omega, by omega, rfl, unhide HFIN (fun h => h.2.2.1 b3)⟩
                        case measure => simp [intOf]; omega
                      · by_cases b4 : va = vc
                        · by_cases b5 : vb = vd
                          · have HYES := hide (show TgR row from (unhide HTG).2 ⟨x, y, z, u, hxy, hyz, hzu, hun, (unhide HIF).2 ⟨b1, b2, b3, b4, b5⟩⟩)
                            clear HIF HFIN
                            subst b4
                            subst b5
                            go_wp2_with fail
                            go_quiet (fail)
                            go_wp2_with fail
                            go_ret
                            refine ⟨Told.yes (unhide HYES), below_draws (below_draws (Below.refl _ _) _) _⟩
                          · have HNX := unhide HFIN (fun h => b5 h.2.2.2.2)
                            clear HIF HFIN
                            subst b4
                            have b5d : (vb == vd) = false := by simp [b5]
                            go_wp2_with fail
                            go_quiet (fail)
                            go_wp2_with fail
                            go_roundw
                            case rel => exact ⟨u + 1, _, by go_num, by omega, by omega, rfl, HNX⟩
                            case measure => simp [intOf]; omega
                        · go_wp2_with fail
                          go_quiet (fail)
                          go_wp2_with fail
                          go_roundw
                          case rel => exact ⟨u + 1, _, by go_num, by omega, by omega, rfl, unhide HFIN (fun h => b4 h.2.2.2.1)⟩
                          case measure => simp [intOf]; omega
                    · have b2' : vb < 0 := by omega
                      have b2d : decide (0 ≤ vb) = false := decide_eq_false b2
                      go_wp2_with fail
                      go_quiet (fail)
                      go_wp2_with fail
                      go_roundw
                      case rel => exact ⟨u + 1, _, by go_num, by omega, by omega, rfl, unhide HFIN (fun h => by have := h.2.1; omega)⟩
                      case measure => simp [intOf]; omega
                  · have b1' : va < 0 := by omega
                    have b1d : decide (0 ≤ va) = false := decide_eq_false b1
                    go_wp2_with fail
                    go_quiet (fail)
                    go_wp2_with fail
                    go_roundw
                    case rel => exact ⟨u + 1, _, by go_num, by omega, by omega, rfl, unhide HFIN (fun h => by have := h.1; omega)⟩
                    case measure => simp [intOf]; omega
                · obtain rfl : u = n := by omega
                  go_wp2_with fail
                  go_roundw
                  case rel =>
                    refine ⟨z + 1, _, by go_num, by omega, by omega, rfl, fun c h1 h2 => ?_⟩
                    by_cases hc : c < z
                    · exact unhide HC c h1 hc
                    · obtain rfl : c = z := by omega
                      exact fun d h3 h4 => unhide HD d h3 h4
                  case measure => simp [intOf]; omega
            · obtain rfl : z = n := by omega
              go_wp2_with fail
              go_roundw
              case rel =>
                refine ⟨y + 1, _, by go_num, by omega, by omega, rfl, fun b h1 h2 => ?_⟩
                by_cases hb : b < y
                · exact unhide HB b h1 hb
                · obtain rfl : b = y := by omega
                  exact fun c d h3 h4 h5 => unhide HC c h3 (by omega) d h4 h5
              case measure => simp [intOf]; omega
        · obtain rfl : y = n := by omega
          go_wp2_with fail
          go_roundw
          case rel =>
            refine ⟨x + 1, _, by go_num, by omega, rfl, fun a h1 => ?_⟩
            by_cases ha : a < x
            · exact unhide HA a ha
            · obtain rfl : a = x := by omega
              exact fun b c d h2 h3 h4 h5 => unhide HB b h2 (by omega) c d h3 h4 h5
          case measure => simp [intOf]; omega
    · obtain rfl : x = n := by omega
      go_wp2_with fail
      go_ret
      refine ⟨Told.no fun h => ?_, below_draws (Below.refl _ _) _⟩
      obtain ⟨a, b, c, d, h1, h2, h3, h4, h5⟩ := (unhide HTG).1 h
      exact unhide HA a (by omega) b c d h1 h2 h3 h4 h5
end Go.Proofs.Ytdkchihomllokaa
/-
  The walk of FrontActs. Conditions: its arguments lie in memory as their readings say.
-/
namespace Go.Proofs.Ytdkchihomllokaa
open Go.RowKit
set_option linter.unusedVariables false
set_option maxRecDepth 20000

def NewC (w : World) (V : Int) (a : Option Addr) (n cap : Nat) (c p : Int) : Prop := ∀ u, Below w.heap.size w u → Calls Try.prog 26 #[.agg #[.int .i64 V, .slice a n cap]] u fun e u' => (∃ va m k, e = .returned (.agg #[.int .i64 c, .int .i64 p, .slice va m k])) ∧ Below u.heap.size u u'

set_option maxHeartbeats 4000000 in
/-- too large -/
theorem acts_big1 (w : World) (V : Int) (a : Option Addr) (n cap : Nat) (ac : Option Addr) (an acap : Nat) (h1 : 80 < an) :
    Calls Try.prog 3 #[.agg #[.int .i64 V, .slice a n cap], .slice ac an acap] w fun e w' => e = .returned (.bool true) ∧ Below w.heap.size w w' := by
  have HB0 := hide (Bg.start w (.int .i64 V) (.slice a n cap))
  have h1i : (80 : Int) < (an : Int) := by omega
  go_enter Try.func3, Try.ntmps3
  go_wp2_with fail
  refine (speaks_any _).mono ?_
  rintro e w1 ⟨rfl, hb1⟩
  have HB1 := hide ((unhide HB0).step hb1)
  obtain ⟨g0, g1⟩ := (unhide HB1).cells
  clear hb1 HB0
  go_wp2_with fail
  go_ret
  exact ⟨rfl, (unhide HB1).bel⟩

set_option maxHeartbeats 4000000 in
/-- too large -/
theorem acts_big2 (w : World) (V : Int) (a : Option Addr) (n cap : Nat) (ac : Option Addr) (an acap : Nat) (h1 : ¬ 80 < an) (h2 : 100 < n) :
    Calls Try.prog 3 #[.agg #[.int .i64 V, .slice a n cap], .slice ac an acap] w fun e w' => e = .returned (.bool true) ∧ Below w.heap.size w w' := by
  have HB0 := hide (Bg.start w (.int .i64 V) (.slice a n cap))
  have h1i : ¬ (80 : Int) < (an : Int) := by omega
  have h2i : (100 : Int) < (n : Int) := by omega
  go_enter Try.func3, Try.ntmps3
  go_wp2_with fail
  refine (speaks_any _).mono ?_
  rintro e w1 ⟨rfl, hb1⟩
  have HB1 := hide ((unhide HB0).step hb1)
  obtain ⟨g0, g1⟩ := (unhide HB1).cells
  clear hb1 HB0
  go_wp2_with fail
  go_ret
  exact ⟨rfl, (unhide HB1).bel⟩

set_option maxHeartbeats 4000000 in
/-- a graph with a fault -/
theorem acts_bad (w : World) (V : Int) (a : Option Addr) (n cap : Nat) (c p : Int) (hc : c ≠ 0) (hg : GoodC w V a n cap c) (hk : NewC w V a n cap c p) (ac : Option Addr) (an acap : Nat) (h1 : ¬ 80 < an) (h2 : ¬ 100 < n) :
    Calls Try.prog 3 #[.agg #[.int .i64 V, .slice a n cap], .slice ac an acap] w fun e w' => e = .returned (.bool true) ∧ Below w.heap.size w w' := by
  have HG := hide hg
  have HK := hide hk
  have HB0 := hide (Bg.start w (.int .i64 V) (.slice a n cap))
  have HC := hide (show (c == 0) = false by simp [hc])
  have HC0 := hide hc
  have h1i : ¬ (80 : Int) < (an : Int) := by omega
  have h2i : ¬ (100 : Int) < (n : Int) := by omega
  clear hg hk hc
  go_enter Try.func3, Try.ntmps3
  go_wp2_with fail
  refine (speaks_any _).mono ?_
  rintro e w1 ⟨rfl, hb1⟩
  have HB1 := hide ((unhide HB0).step hb1)
  obtain ⟨g0, g1⟩ := (unhide HB1).cells
  clear hb1 HB0
  go_wp2_with fail
  refine (new_bad w1 V a n cap c p (unhide HC0) (fun u hu => unhide HK u ((unhide HB1).bel.trans (hu.mono (unhide HB1).bel.size)))).mono ?_
  rintro e w2 ⟨rfl, hb2⟩
  have HB2 := hide ((unhide HB1).step hb2)
  clear hb2 g0 g1 HB1
  obtain ⟨g0, g1⟩ := (unhide HB2).cells
  go_wp2_with fail
  refine (good_is w2 V a n cap c (fun u hu => unhide HG u ((unhide HB2).bel.trans (hu.mono (unhide HB2).bel.size)))).mono ?_
  rintro e w3 ⟨rfl, hb3⟩
  rw [unhide HC]
  have HB3 := hide ((unhide HB2).step hb3)
  clear hb3 g0 g1 HB2
  go_wp2_with fail
  go_ret
  exact ⟨rfl, (unhide HB3).bel⟩

theorem Placed.elen {V : Nat} {es : List (Nat × Nat)} {src : Nat} {row : List It} {pl : List Nat} {x : Int} {zs : List Int} {code : Int} {ends row2 : List It} {pl2 : List Nat} (h : Placed V es src row pl x zs code ends row2 pl2) : ends.length ≤ row.length := by
  rcases h with ⟨_, rfl, _⟩ | ⟨_, rfl, _⟩ | ⟨_, y, o, _, _, _, _, _, h⟩
  · simp
  · simp
  · rcases h with ⟨_, _, rfl, _⟩ | ⟨_, A, C, hr, _⟩
    · simp
    · have := congrArg List.length hr.eq
      simp at this
      omega

set_option maxHeartbeats 64000000 in
theorem acts_good (w : World) (V : Nat) (a : Option Addr) (cap : Nat) (es : List (Nat × Nat)) (h : Es 0 w a es.length (toI es)) (hno : a = none → es.length = 0 ∧ cap = 0) (hcap : es.length ≤ cap) (hp : Plain V es) (hok : IsFault V es 0 0 []) (hg : GoodC w V a es.length cap 0) (src : Nat) (hsrc : bare (Pl.ins es) V = [src])
    (ac : Option Addr) (an acap : Nat) (hac : Acs w ac an) (han : an ≤ 80) (hE : es.length ≤ 100) :
    Calls Try.prog 3 #[.agg #[.int .i64 V, .slice a es.length cap], .slice ac an acap] w fun e w' => e = .returned (.bool true) ∧ Below w.heap.size w w' := by
  have HG := hide hg
  have HE := hide h
  have HP := hide hp
  have HSRC := hide hsrc
  have HAC := hide hac
  have HNEW := hide (fun (u : World) (hu : Below w.heap.size w u) => new_good u V a cap es (h.below hu) hno hcap hp hok)
  have HV64 := hide hp.v64
  obtain ⟨n, hn⟩ : ∃ n, es.length = n := ⟨_, rfl⟩
  have HDA := hide (show 0 < n → ∀ g off, a = some ⟨g, off, none⟩ → g < w.heap.size from fun h0 g off he => by
    obtain ⟨g', off', he', _, hg', _⟩ := h.2.2 0 (by omega)
    rw [he] at he'; cases he'; exact hg')
  have HN := hide hn
  rw [hn] at HG HNEW hE ⊢
  have HB0 := hide (Bg.start w (.int .i64 (V : Nat)) (.slice a n cap))
  have h1i : ¬ (80 : Int) < (an : Int) := by omega
  have h2i : ¬ (100 : Int) < (n : Int) := by omega
  clear hg h hno hcap hp hok hac hsrc hn
  go_enter Try.func3, Try.ntmps3
  go_wp2_with fail
  refine (speaks_any _).mono ?_
  rintro e w1 ⟨rfl, hb1⟩
  have HB1 := hide ((unhide HB0).step hb1)
  obtain ⟨g0, g1⟩ := (unhide HB1).cells
  clear hb1 HB0
  go_wp2_with fail

  refine (unhide HNEW w1 (unhide HB1).bel).mono ?_
  rintro e w3 ⟨⟨b, s, rfl, hlo, hF3, hS3⟩, hb3⟩
  obtain ⟨N, hNe⟩ : ∃ N, w3.heap.size = N := ⟨_, rfl⟩
  rw [hNe] at hF3 hS3
  have hwb : w.heap.size + 1 ≤ b := by have := (unhide HB1).lt; omega
  have hbN : b < N := by rw [← hNe]; exact hF3.lt
  have HWB := hide (show w.heap.size + 1 ≤ min b N ∧ b < N ∧ w.heap.size < N by omega)
  have HF3 := hide hF3
  have HS3 := hide hS3
  have HNE := hide hNe
  have HB3 := hide ((unhide HB1).step hb3)
  clear hb3 g0 g1 HB1 hlo hF3 hS3 hwb hbN hNe HNEW
  obtain ⟨g0, g1⟩ := (unhide HB3).cells
  go_wp2_with fail
  refine (good_is w3 V a n cap 0 (fun u hu => unhide HG u ((unhide HB3).bel.trans (hu.mono (unhide HB3).bel.size)))).mono ?_
  rintro e w4 ⟨rfl, hb4⟩
  rw [show ((0 : Int) == 0) = true from rfl]
  have HB4 := hide ((unhide HB3).step hb4)
  obtain ⟨rb, hrb⟩ : ∃ rb, w4.heap.size = rb := ⟨_, rfl⟩
  have hNrb : N ≤ rb := by rw [← hrb, ← unhide HNE]; exact hb4.size
  have HNRB := hide hNrb
  have hb5 := b_al (w := w4) (.cells #[.int .i64 (V : Nat), .slice a n cap, .slice none 0 0, .slice none 0 0] 36)
  have HB5 := hide ((unhide HB4).step hb5)
  have hdA : 0 < es.length → ∀ g off, a = some ⟨g, off, none⟩ → g < w.heap.size := fun h0 => unhide HDA (by rw [← unhide HN]; exact h0)
  have HBO5 := hide (show Bo N b rb V es src s a cap (w4.alloc (.cells #[.int .i64 (V : Nat), .slice a n cap, .slice none 0 0, .slice none 0 0] 36)) none (.slice none 0 0) [] [] none 0 none 0 [] [] from
    ⟨(show Fy N b w3 b V es s none (.slice none 0 0) [] [] from ⟨unhide HS3, ⟨_, unhide HF3⟩, fun _ => rfl, .inl rfl⟩).below (hb4.trans (hb5.mono hb4.size)),
      ⟨by rw [unhide HN, ← hrb]; exact (MapKept.heap_alloc w4 _).1, (unhide HE).below (unhide HB5).bel, Is.nil0 _ _, Ns.nil _ _, fun _ => ⟨rfl, rfl⟩, fun _ => ⟨rfl, rfl⟩, Nat.le_refl _, fun h0 g off he => by have := hdA h0 g off he; have := unhide HWB; omega, fun g off he => (by cases he), fun g off he => (by cases he)⟩,
      Inv.start V es src, (unhide HWB).2.1, hNrb, fun g off he => (by cases he), fun e => (by simp [Value.ownBlock] at e), fun h => absurd rfl h, fun h => absurd rfl h, fun h0 g off he => by have := hdA h0 g off he; have := unhide HWB; omega, fun _ => rfl, fun _ => rfl⟩)
  have HRBW := hide (show w.heap.size < rb by have := unhide HWB; omega)
  clear hb4 hb5 hdA g0 g1 HF3 HS3 HNE HB3 HG hNrb
  have HHRB := hide hrb
  obtain ⟨g0, g1⟩ := (unhide HB4).cells
  obtain ⟨g2, g3⟩ := (unhide HB5).cells
  go_wp2_with fail
  clear g0 g1 g2 g3
  clear hrb
  go_loopw [55] (fun i wr => ∃ (q : Nat) (ra : Option Addr) (pv : Value) (row : List It) (pl : List Nat) (xa : Option Addr) (xc : Nat) (ya : Option Addr) (yc : Nat), i = .int .i64 q ∧ q ≤ an ∧ Hid (Bo N b rb V es src s a cap wr ra pv row pl xa xc ya yc row pl) ∧ Hid (Bg w wr (.int .i64 (V : Nat)) (.slice a n cap))) (fun i wr => an - (intOf i).toNat)
  case atStart => exact ⟨0, none, _, [], [], none, 0, none, 0, rfl, by omega, HBO5, HB5⟩
  case round =>
    obtain ⟨q, ra, pv, row, pl, xa, xc, ya, yc, rfl, hq, HBO, HBr⟩ := hrel
    by_cases hlt : q < an
    · obtain ⟨g, off, x, ak, lk, ck, zs, hae, hA⟩ := unhide HAC q hlt
      subst hae
      have hAr := hA.below (unhide HBr).bel (Nat.le_refl _)
      have d0 := hAr.c0
      have d1 := hAr.c1
      have hqa : (q : Int) < (an : Int) := by omega
      have hwq : IntKind.i64.wrap ((q : Int) + 1) = (q : Int) + 1 := by rw [IntKind.wrap_i64]; omega
      have hba := b_al (w := wr) (.cells #[.int .i64 x, .slice ak lk ck] 38)
      have HBa := hide ((unhide HBr).step hba)
      have HBOa := hide ((unhide HBO).below hba)
      have HAB := hide (show Ab wr.heap.size (wr.alloc (.cells #[.int .i64 x, .slice ak lk ck] 38)) wr.heap.size x ak lk ck from ⟨Nat.le_refl _, (MapKept.heap_alloc wr _).1⟩)
      have HLTB := hide (show b < wr.heap.size ∧ rb < wr.heap.size ∧ ∀ g, pv.ownBlock = some g → g < wr.heap.size from ⟨(unhide HBO).f.up.1, (unhide HBO).r.cells.2.2.2.2, fun g hg => ((unhide HBO).f.up.2.2 g hg).2⟩)
      have HA := hide hA
      have hAsz := hA.sz
      by_cases h200 : 200 < lk
      · have h200i : (200 : Int) < (lk : Int) := by omega
        obtain ⟨e0, e1⟩ := (unhide HAB).cells
        clear hA hAr hba
        go_wp2_with fail
        go_ret
        exact ⟨rfl, (unhide HBa).bel⟩
      · have h200i : ¬ (200 : Int) < (lk : Int) := by omega
        obtain ⟨e0, e1⟩ := (unhide HAB).cells
        obtain ⟨rcf, hff⟩ := (unhide HBOa).f.fb
        have C := hide (fclone_any (wr.alloc (.cells #[.int .i64 x, .slice ak lk ck] 38)) N b V s ra rcf row pv pl hff (unhide HBOa).f.sn.1 (unhide HBOa).f.rr)
        clear hA hAr hba hff HBO HBr
        go_wp2_with fail
        refine (unhide C).mono ?_
        rintro e w5 ⟨⟨oa, oc, ov, he5, hF5, h5r, h5a, h5v⟩, hb5⟩
        have HOL5 := hide (show Ol wr.heap.size N V s row pl w5 (wr.alloc (.cells #[.int .i64 x, .slice ak lk ck] 38)).heap.size from ⟨oa, oc, ov, hF5, h5r, by simp, fun g off he => by have := h5a g off he; simp at this; omega, fun g hg => by have := h5v g hg; simp at this; omega⟩)
        obtain ⟨o, ho⟩ : ∃ o, (wr.alloc (.cells #[.int .i64 x, .slice ak lk ck] 38)).heap.size = o := ⟨_, rfl⟩
        rw [ho] at HOL5 he5
        have HS5 := hide (show wr.heap.size ≤ w5.heap.size by have := hb5.size; simp at this; omega)
        have HBO5 := hide ((unhide HBOa).below hb5)
        have HB5 := hide ((unhide HBa).step hb5)
        have HAB5 := hide ((unhide HAB).keep (.bel hb5))
        subst he5
        clear hF5 h5r h5a h5v hb5 C HBOa HBa HAB e0 e1 d0 d1 ho
        obtain ⟨rcf, hff⟩ := (unhide HBO5).f.fb
        have CR := hide (row_any w5 b ra rcf row hff.cells.1 hff.items hff.rno (by have := hff.small.1; omega))
        clear hff
        go_wp2_with fail
        refine (unhide CR).mono ?_
        rintro e w6 ⟨⟨vr, rfl, hvr⟩, hb6⟩
        have HVR6 := hide (show Vk wr.heap.size w6 vr row from owns_base hvr (unhide HS5))
        obtain ⟨r1, rc1, rfl⟩ := own_shape hvr
        have HBO6 := hide ((unhide HBO5).below hb6)
        have HB6 := hide ((unhide HB5).step hb6)
        have HAB6 := hide ((unhide HAB5).keep (.bel hb6))
        have HOL6 := hide ((unhide HOL5).keep (.bel hb6))
        have HS6 := hide (show wr.heap.size ≤ w6.heap.size from Nat.le_trans (unhide HS5) hb6.size)
        obtain ⟨rcf, hff⟩ := (unhide HBO6).f.fb
        have CP := hide (placed_any w6 N b V s ra rcf row pv pl hff)
        clear hff hvr hb6 CR HBO5 HB5 HAB5 HOL5 HS5
        go_wp2_with fail
        refine (unhide CP).mono ?_
        rintro e w7 ⟨⟨vp, rfl, hvp⟩, hb7⟩
        have HVP7 := hide (show Pk wr.heap.size w7 vp pl from owns_base hvp (unhide HS6))
        obtain ⟨p1, pc1, rfl⟩ := own_shape hvp
        have HVR7 := hide ((unhide HVR6).keep (.bel hb7))
        have HBO7 := hide ((unhide HBO6).below hb7)
        have HB7 := hide ((unhide HB6).step hb7)
        have HAB7 := hide ((unhide HAB6).keep (.bel hb7))
        have HOL7 := hide ((unhide HOL6).keep (.bel hb7))
        have HS7 := hide (show wr.heap.size ≤ w7.heap.size from Nat.le_trans (unhide HS6) hb7.size)
        have hup := (unhide HBO7).f.up
        have C := hide (place_any w7 N b b V es src s ra pv row pl (unhide HBO7).f (unhide HP) (unhide HSRC) (unhide HBO7).i x ak lk ck zs ((unhide HA).below (unhide HB7).bel (Nat.le_refl _)).ns (unhide HA).no hAsz (fun g' off' he hl0 h => by
          have hw := unhide HWB
          obtain ⟨g2, off2, ha2, hg2, _⟩ := (unhide HA).ns.2.2 0 (by omega)
          rw [he] at ha2
          cases ha2
          rcases h with h | h
          · omega
          · have := (hup.2.2 _ h).1; omega))
        obtain ⟨e0, e1⟩ := (unhide HAB7).cells
        clear hvp hb7 CP hup HBO6 HB6 HAB6 HOL6 HS6 HVR6
        go_wp2_with fail
        refine (unhide C).mono ?_
        rintro e w8 hst
        obtain ⟨code, ends, row2, pl2, v8, ra8, pv8, hP, rfl, hov, hBO8, _, hbz⟩ := (unhide HBO7).stepF (unhide HP) (unhide HSRC) hst
        have hkp : Kp wr.heap.size w7 w8 := .bz hbz (fun i hi => by
          rcases hi with rfl | hi
          · exact (unhide HLTB).1
          · exact (unhide HLTB).2.2 i hi)
        have HEN := hide (show ends.length ≤ 400 by
          obtain ⟨_, hff⟩ := (unhide HBO7).f.fb
          have := hP.elen
          have := hff.small.1
          omega)
        have HVL8 := hide (show Vk wr.heap.size w8 v8 ends from owns_base hov (unhide HS7))
        obtain ⟨l8, lc8, rfl⟩ := own_shape hov
        have HVR8 := hide ((unhide HVR7).keep hkp)
        have HVP8 := hide ((unhide HVP7).keep hkp)
        have HAB8 := hide ((unhide HAB7).keep hkp)
        have HOL8 := hide ((unhide HOL7).keep hkp)
        have HS8 := hide (show wr.heap.size ≤ w8.heap.size from Nat.le_trans (unhide HS7) hkp.size)
        have HB8 := hide ((unhide HB7).stepB (by have := unhide HWB; omega) hbz.bel)
        have CR := hide (refPlace_any w8 rb V a cap es xa xc row ya yc pl src hBO8.r (unhide HBO7).i (unhide HP) (unhide HSRC) x ak lk ck zs ((unhide HA).below (unhide HB8).bel (Nat.le_refl _)).ns (unhide HA).no)
        have HBO8 := hide hBO8
        have HPF := hide hP
        obtain ⟨e2, e3⟩ := (unhide HAB8).cells
        clear C hst hov hBO8 hbz hkp HVR7 HVP7 HAB7 HOL7 HS7 HB7 HBO7 e0 e1 hP
        go_wp2_with fail
        refine (unhide CR).mono ?_
        rintro e w9 hst
        obtain ⟨code', ends', row2', pl2', v9, xa', xc', ya', yc', hP', rfl, hov, hBO9, hbz⟩ := (unhide HBO8).stepR hst
        obtain ⟨rfl, rfl, rfl, rfl⟩ := (unhide HPF).det hP'
        have hkp : Kp wr.heap.size w8 w9 := .bz hbz (fun i hi => by subst hi; exact (unhide HLTB).2.1)
        have HVL9 := hide (show Vk wr.heap.size w9 v9 ends from owns_base hov (unhide HS8))
        obtain ⟨l9, lc9, rfl⟩ := own_shape hov
        have HVK9 := hide ((unhide HVL8).keep hkp)
        have HVR9 := hide ((unhide HVR8).keep hkp)
        have HVP9 := hide ((unhide HVP8).keep hkp)
        have HOL9 := hide ((unhide HOL8).keep hkp)
        have HB9 := hide ((unhide HB8).stepB (by have := unhide HRBW; omega) hbz.bel)
        have HBO9 := hide hBO9
        clear CR hst hP' hov hBO9 hbz hkp HVR8 HVP8 HAB8 HOL8 HS8 HB8 HBO8 e2 e3 HVL8 HPF HA HLTB hAsz h200 h200i
        go_wp2_with fail
        have HB10 := hide ((unhide HB9).step b_dr)
        have HBO10 := hide ((unhide HBO9).below b_dr)
        have HVL10 := hide ((unhide HVL9).keep (.bel b_dr))
        have HVK10 := hide ((unhide HVK9).keep (.bel b_dr))
        have HVR10 := hide ((unhide HVR9).keep (.bel b_dr))
        have HVP10 := hide ((unhide HVP9).keep (.bel b_dr))
        have HOL10 := hide ((unhide HOL9).keep (.bel b_dr))
        have hR9 := (unhide HBO9).r
        have hcl : w9.cell? ⟨rb, 2, none⟩ = some (.slice xa' row2.length xc') ∧ w9.cell? ⟨rb, 3, none⟩ = some (.slice ya' pl2.length yc') ∧ w9.cell? ⟨w.heap.size, 0, none⟩ = some (.int .i64 (V : Nat)) := by
          have hc := hR9.cells
          exact ⟨hc.2.2.1, hc.2.2.2.1, (unhide HB9).cells.1⟩
        have HCL := hide (fun (u : World) (hu : Bo N b rb V es src s a cap u ra8 pv8 row2 pl2 xa' xc' ya' yc' row2 pl2) (hb : Bg w u (.int .i64 (V : Nat)) (.slice a n cap)) => (show u.cell? ⟨rb, 2, none⟩ = some (.slice xa' row2.length xc') ∧ u.cell? ⟨rb, 3, none⟩ = some (.slice ya' pl2.length yc') ∧ u.cell? ⟨w.heap.size, 0, none⟩ = some (.int .i64 (V : Nat)) from ⟨hu.r.cells.2.2.1, hu.r.cells.2.2.2.1, hb.cells.1⟩))
        refine wp_region_held_drew (S := fun u => u.cell? ⟨rb, 2, none⟩ = some (.slice xa' row2.length xc') ∧ u.cell? ⟨rb, 3, none⟩ = some (.slice ya' pl2.length yc') ∧ u.cell? ⟨w.heap.size, 0, none⟩ = some (.int .i64 (V : Nat))) (by kernel_rfl) hcl (fun hS0 => ?_)
        clear HB9 HBO9 HVL9 HVK9 HVR9 HVP9 HOL9 hR9 hcl
        generalize w9.drew = w10 at hS0 HB10 HBO10 HVL10 HVK10 HVR10 HVP10 HOL10 ⊢
        refine wpAnyH_take (i := 0) (v := ?_) rfl (by kernel_rfl) (by kernel_rfl) (by kernel_rfl) (fun _ _ _ h => h) (Or.inl ⟨by rfl, ?_⟩) hS0 ?_
        rotate_left
        · intro u hu; (try dsimp only at hu); go_simp; try with_reducible rfl
        simp only [Act.put, List.getElem_toArray, List.getElem_cons_zero, List.setIfInBounds_toArray, List.set_cons_zero, List.set_cons_succ]
        refine wpAnyH_take (i := 1) (v := ?_) rfl (by kernel_rfl) (by kernel_rfl) (by kernel_rfl) (fun _ _ _ h => h) (Or.inl ⟨by rfl, ?_⟩) hS0 ?_
        rotate_left
        · intro u hu; (try dsimp only at hu); go_simp; try with_reducible rfl
        simp only [Act.put, List.getElem_toArray, List.getElem_cons_zero, List.getElem_cons_succ, List.setIfInBounds_toArray, List.set_cons_zero, List.set_cons_succ]
        refine wpAnyH_take (i := 2) (v := ?_) rfl (by kernel_rfl) (by kernel_rfl) (by kernel_rfl) (fun _ _ _ h => h) (Or.inl ⟨by rfl, ?_⟩) hS0 ?_
        rotate_left
        · intro u hu; (try dsimp only at hu); go_simp; try with_reducible rfl
        simp only [Act.put, List.getElem_toArray, List.getElem_cons_zero, List.getElem_cons_succ, List.setIfInBounds_toArray, List.set_cons_zero, List.set_cons_succ]
        refine wpAnyH_take (i := 3) (v := ?_) rfl (by kernel_rfl) (by kernel_rfl) (by kernel_rfl) (fun _ _ _ h => h) (Or.inl ⟨by rfl, ?_⟩) hS0 ?_
        rotate_left
        · intro u hu; (try dsimp only at hu); go_simp; try with_reducible rfl
        simp only [Act.put, List.getElem_toArray, List.getElem_cons_zero, List.getElem_cons_succ, List.setIfInBounds_toArray, List.set_cons_zero, List.set_cons_succ]
        refine wpAnyH_take (i := 4) (v := ?_) rfl (by kernel_rfl) (by kernel_rfl) (by kernel_rfl) (fun _ _ _ h => h) (Or.inl ⟨by rfl, ?_⟩) hS0 ?_
        rotate_left
        · intro u hu; (try dsimp only at hu); go_simp; try with_reducible rfl
        simp only [Act.put, List.getElem_toArray, List.getElem_cons_zero, List.getElem_cons_succ, List.setIfInBounds_toArray, List.set_cons_zero, List.set_cons_succ]
        refine wpAnyH_take (i := 5) (v := ?_) rfl (by kernel_rfl) (by kernel_rfl) (by kernel_rfl) (fun _ _ _ h => h) (Or.inl ⟨by rfl, ?_⟩) hS0 ?_
        rotate_left
        · intro u hu; (try dsimp only at hu); go_simp; try with_reducible rfl
        simp only [Act.put, List.getElem_toArray, List.getElem_cons_zero, List.getElem_cons_succ, List.setIfInBounds_toArray, List.set_cons_zero, List.set_cons_succ]
        refine wpAnyH_ready (rs := [6]) (by kernel_rfl) (by simp) ?_
        refine AllReadyH.cons rfl (fun K hK => ?_) AllReadyH.nil
        go_simp
        refine (sameItems_yes w10 l8 l9 lc8 lc9 ends ((unhide HVK10).is (unhide HEN)) ((unhide HVL10).is (unhide HEN))).mono ?_
        rintro e w11 ⟨rfl, hb⟩
        have HB11 := hide ((unhide HB10).step hb)
        have HBO11 := hide ((unhide HBO10).below hb)
        have HVR11 := hide ((unhide HVR10).keep (.bel hb))
        have HVP11 := hide ((unhide HVP10).keep (.bel hb))
        have HOL11 := hide ((unhide HOL10).keep (.bel hb))
        refine hK.out _ _ (unhide HCL w11 (unhide HBO11) (unhide HB11)) (fun hS1 => ?_)
        clear hK K hb HB10 HBO10 HVR10 HVP10 HOL10 HVL10 HVK10
        refine wpAnyH_take (i := 7) (v := ?_) rfl (by kernel_rfl) (by kernel_rfl) (by kernel_rfl) (fun _ _ _ h => h) (Or.inl ⟨by rfl, ?_⟩) hS1 ?_
        rotate_left
        · intro u hu; (try dsimp only at hu); go_simp; try with_reducible rfl
        simp only [Act.put, List.getElem_toArray, List.getElem_cons_zero, List.getElem_cons_succ, List.setIfInBounds_toArray, List.set_cons_zero, List.set_cons_succ]
        refine wpAnyH_take (i := 8) (v := ?_) rfl (by kernel_rfl) (by kernel_rfl) (by kernel_rfl) (fun _ _ _ h => h) (Or.inl ⟨by rfl, ?_⟩) hS1 ?_
        rotate_left
        · intro u hu; (try dsimp only at hu); go_simp; try with_reducible rfl
        simp only [Act.put, List.getElem_toArray, List.getElem_cons_zero, List.getElem_cons_succ, List.setIfInBounds_toArray, List.set_cons_zero, List.set_cons_succ]
        refine wpAnyH_take (i := 9) (v := ?_) rfl (by kernel_rfl) (by kernel_rfl) (by kernel_rfl) (fun _ _ _ h => h) (Or.inl ⟨by rfl, ?_⟩) hS1 ?_
        rotate_left
        · intro u hu; (try dsimp only at hu); go_simp; try with_reducible rfl
        simp only [Act.put, List.getElem_toArray, List.getElem_cons_zero, List.getElem_cons_succ, List.setIfInBounds_toArray, List.set_cons_zero, List.set_cons_succ]
        refine wpAnyH_take (i := 10) (v := ?_) rfl (by kernel_rfl) (by kernel_rfl) (by kernel_rfl) (fun _ _ _ h => h) (Or.inl ⟨by rfl, ?_⟩) hS1 ?_
        rotate_left
        · intro u hu; (try dsimp only at hu); go_simp; try with_reducible rfl
        simp only [Act.put, List.getElem_toArray, List.getElem_cons_zero, List.getElem_cons_succ, List.setIfInBounds_toArray, List.set_cons_zero, List.set_cons_succ]
        refine wpAnyH_take (i := 11) (v := ?_) rfl (by kernel_rfl) (by kernel_rfl) (by kernel_rfl) (fun _ _ _ h => h) (Or.inl ⟨by rfl, ?_⟩) hS1 ?_
        rotate_left
        · intro u hu; (try dsimp only at hu); go_simp; try with_reducible rfl
        simp only [Act.put, List.getElem_toArray, List.getElem_cons_zero, List.getElem_cons_succ, List.setIfInBounds_toArray, List.set_cons_zero, List.set_cons_succ]
        refine wpAnyH_take (i := 12) (v := ?_) rfl (by kernel_rfl) (by kernel_rfl) (by kernel_rfl) (fun _ _ _ h => h) (Or.inl ⟨by rfl, ?_⟩) hS1 ?_
        rotate_left
        · intro u hu; (try dsimp only at hu); go_simp; try with_reducible rfl
        simp only [Act.put, List.getElem_toArray, List.getElem_cons_zero, List.getElem_cons_succ, List.setIfInBounds_toArray, List.set_cons_zero, List.set_cons_succ]
        refine wpAnyH_take (i := 14) (v := ?_) rfl (by kernel_rfl) (by kernel_rfl) (by kernel_rfl) (fun _ _ _ h => h) (Or.inl ⟨by rfl, ?_⟩) hS1 ?_
        rotate_left
        · intro u hu; (try dsimp only at hu); go_simp; try with_reducible rfl
        simp only [Act.put, List.getElem_toArray, List.getElem_cons_zero, List.getElem_cons_succ, List.setIfInBounds_toArray, List.set_cons_zero, List.set_cons_succ]
        refine wpAnyH_take (i := 15) (v := ?_) rfl (by kernel_rfl) (by kernel_rfl) (by kernel_rfl) (fun _ _ _ h => h) (Or.inl ⟨by rfl, ?_⟩) hS1 ?_
        rotate_left
        · intro u hu; (try dsimp only at hu); go_simp; try with_reducible rfl
        simp only [Act.put, List.getElem_toArray, List.getElem_cons_zero, List.getElem_cons_succ, List.setIfInBounds_toArray, List.set_cons_zero, List.set_cons_succ]
        refine wpAnyH_take (i := 16) (v := ?_) rfl (by kernel_rfl) (by kernel_rfl) (by kernel_rfl) (fun _ _ _ h => h) (Or.inl ⟨by rfl, ?_⟩) hS1 ?_
        rotate_left
        · intro u hu; (try dsimp only at hu); go_simp; try with_reducible rfl
        simp only [Act.put, List.getElem_toArray, List.getElem_cons_zero, List.getElem_cons_succ, List.setIfInBounds_toArray, List.set_cons_zero, List.set_cons_succ]
        refine wpAnyH_take (i := 17) (v := ?_) rfl (by kernel_rfl) (by kernel_rfl) (by kernel_rfl) (fun _ _ _ h => h) (Or.inl ⟨by rfl, ?_⟩) hS1 ?_
        rotate_left
        · intro u hu; (try dsimp only at hu); go_simp; try with_reducible rfl
        simp only [Act.put, List.getElem_toArray, List.getElem_cons_zero, List.getElem_cons_succ, List.setIfInBounds_toArray, List.set_cons_zero, List.set_cons_succ]
        obtain ⟨rcf, hff⟩ := (unhide HBO11).f.fb
        have CR := hide (row_any w11 b ra8 rcf row2 hff.cells.1 hff.items hff.rno (by have := hff.small.1; omega))
        have HSM := hide (show row2.length ≤ 400 ∧ pl2.length ≤ 100 from hff.small)
        clear hff
        refine wpAnyH_ready (rs := [13]) (by kernel_rfl) (by simp) ?_
        refine AllReadyH.cons rfl (fun K hK => ?_) AllReadyH.nil
        go_simp
        refine (unhide CR).mono ?_
        rintro e w12 ⟨⟨vf, rfl, hof⟩, hb⟩
        have HVF12 := hide (show Vk 0 w12 vf row2 from owns_base hof (Nat.zero_le _))
        obtain ⟨f12, fc12, rfl⟩ := own_shape hof
        have HB12 := hide ((unhide HB11).step hb)
        have HBO12 := hide ((unhide HBO11).below hb)
        have HVR12 := hide ((unhide HVR11).keep (.bel hb))
        have HVP12 := hide ((unhide HVP11).keep (.bel hb))
        have HOL12 := hide ((unhide HOL11).keep (.bel hb))
        refine hK.out _ _ (unhide HCL w12 (unhide HBO12) (unhide HB12)) (fun hS2 => ?_)
        clear hK K hb hof CR HB11 HBO11 HVR11 HVP11 HOL11
        have hR12 := (unhide HBO12).r.items
        have HI12 := hide hR12
        clear hR12
        refine wpAnyH_ready (rs := [18]) (by kernel_rfl) (by simp) ?_
        refine AllReadyH.cons rfl (fun K hK => ?_) AllReadyH.nil
        go_simp
        refine (sameItems_yes w12 f12 xa' fc12 xc' row2 ((unhide HVF12).is (unhide HSM).1) (unhide HI12)).mono ?_
        rintro e w13 ⟨rfl, hb⟩
        have HB13 := hide ((unhide HB12).step hb)
        have HBO13 := hide ((unhide HBO12).below hb)
        have HVR13 := hide ((unhide HVR12).keep (.bel hb))
        have HVP13 := hide ((unhide HVP12).keep (.bel hb))
        have HOL13 := hide ((unhide HOL12).keep (.bel hb))
        refine hK.out _ _ (unhide HCL w13 (unhide HBO13) (unhide HB13)) (fun hS3 => ?_)
        clear hK K hb HI12 HVF12 HB12 HBO12 HVR12 HVP12 HOL12
        refine wpAnyH_take (i := 19) (v := ?_) rfl (by kernel_rfl) (by kernel_rfl) (by kernel_rfl) (fun _ _ _ h => h) (Or.inl ⟨by rfl, ?_⟩) hS3 ?_
        rotate_left
        · intro u hu; (try dsimp only at hu); go_simp; try with_reducible rfl
        simp only [Act.put, List.getElem_toArray, List.getElem_cons_zero, List.getElem_cons_succ, List.setIfInBounds_toArray, List.set_cons_zero, List.set_cons_succ]
        refine wpAnyH_take (i := 20) (v := ?_) rfl (by kernel_rfl) (by kernel_rfl) (by kernel_rfl) (fun _ _ _ h => h) (Or.inl ⟨by rfl, ?_⟩) hS3 ?_
        rotate_left
        · intro u hu; (try dsimp only at hu); go_simp; try with_reducible rfl
        simp only [Act.put, List.getElem_toArray, List.getElem_cons_zero, List.getElem_cons_succ, List.setIfInBounds_toArray, List.set_cons_zero, List.set_cons_succ]
        refine wpAnyH_take (i := 21) (v := ?_) rfl (by kernel_rfl) (by kernel_rfl) (by kernel_rfl) (fun _ _ _ h => h) (Or.inl ⟨by rfl, ?_⟩) hS3 ?_
        rotate_left
        · intro u hu; (try dsimp only at hu); go_simp; try with_reducible rfl
        simp only [Act.put, List.getElem_toArray, List.getElem_cons_zero, List.getElem_cons_succ, List.setIfInBounds_toArray, List.set_cons_zero, List.set_cons_succ]
        refine wpAnyH_take (i := 22) (v := ?_) rfl (by kernel_rfl) (by kernel_rfl) (by kernel_rfl) (fun _ _ _ h => h) (Or.inl ⟨by rfl, ?_⟩) hS3 ?_
        rotate_left
        · intro u hu; (try dsimp only at hu); go_simp; try with_reducible rfl
        simp only [Act.put, List.getElem_toArray, List.getElem_cons_zero, List.getElem_cons_succ, List.setIfInBounds_toArray, List.set_cons_zero, List.set_cons_succ]
        refine wpAnyH_take (i := 24) (v := ?_) rfl (by kernel_rfl) (by kernel_rfl) (by kernel_rfl) (fun _ _ _ h => h) (Or.inl ⟨by rfl, ?_⟩) hS3 ?_
        rotate_left
        · intro u hu; (try dsimp only at hu); go_simp; try with_reducible rfl
        simp only [Act.put, List.getElem_toArray, List.getElem_cons_zero, List.getElem_cons_succ, List.setIfInBounds_toArray, List.set_cons_zero, List.set_cons_succ]
        refine wpAnyH_take (i := 25) (v := ?_) rfl (by kernel_rfl) (by kernel_rfl) (by kernel_rfl) (fun _ _ _ h => h) (Or.inl ⟨by rfl, ?_⟩) hS3 ?_
        rotate_left
        · intro u hu; (try dsimp only at hu); go_simp; try with_reducible rfl
        simp only [Act.put, List.getElem_toArray, List.getElem_cons_zero, List.getElem_cons_succ, List.setIfInBounds_toArray, List.set_cons_zero, List.set_cons_succ]
        refine wpAnyH_take (i := 26) (v := ?_) rfl (by kernel_rfl) (by kernel_rfl) (by kernel_rfl) (fun _ _ _ h => h) (Or.inl ⟨by rfl, ?_⟩) hS3 ?_
        rotate_left
        · intro u hu; (try dsimp only at hu); go_simp; try with_reducible rfl
        simp only [Act.put, List.getElem_toArray, List.getElem_cons_zero, List.getElem_cons_succ, List.setIfInBounds_toArray, List.set_cons_zero, List.set_cons_succ]
        refine wpAnyH_take (i := 27) (v := ?_) rfl (by kernel_rfl) (by kernel_rfl) (by kernel_rfl) (fun _ _ _ h => h) (Or.inl ⟨by rfl, ?_⟩) hS3 ?_
        rotate_left
        · intro u hu; (try dsimp only at hu); go_simp; try with_reducible rfl
        simp only [Act.put, List.getElem_toArray, List.getElem_cons_zero, List.getElem_cons_succ, List.setIfInBounds_toArray, List.set_cons_zero, List.set_cons_succ]
        obtain ⟨rcf, hff⟩ := (unhide HBO13).f.fb
        have CP := hide (placed_any w13 N b V s ra8 rcf row2 pv8 pl2 hff)
        clear hff
        refine wpAnyH_ready (rs := [23]) (by kernel_rfl) (by simp) ?_
        refine AllReadyH.cons rfl (fun K hK => ?_) AllReadyH.nil
        go_simp
        refine (unhide CP).mono ?_
        rintro e w14 ⟨⟨vf, rfl, hof⟩, hb⟩
        have HPF14 := hide (show Pk 0 w14 vf pl2 from owns_base hof (Nat.zero_le _))
        obtain ⟨f14, fc14, rfl⟩ := own_shape hof
        have HB14 := hide ((unhide HB13).step hb)
        have HBO14 := hide ((unhide HBO13).below hb)
        have HVR14 := hide ((unhide HVR13).keep (.bel hb))
        have HVP14 := hide ((unhide HVP13).keep (.bel hb))
        have HOL14 := hide ((unhide HOL13).keep (.bel hb))
        refine hK.out _ _ (unhide HCL w14 (unhide HBO14) (unhide HB14)) (fun hS4 => ?_)
        clear hK K hb hof CP HB13 HBO13 HVR13 HVP13 HOL13
        have HPS14 := hide (unhide HBO14).r.pls
        refine wpAnyH_ready (rs := [28]) (by kernel_rfl) (by simp) ?_
        refine AllReadyH.cons rfl (fun K hK => ?_) AllReadyH.nil
        go_simp
        refine (sameI_yes w14 f14 ya' pl2.length fc14 yc' (toIs pl2) ((unhide HPF14).ns (by have := (unhide HSM).2; omega)) (unhide HPS14)).mono ?_
        rintro e w15 ⟨rfl, hb⟩
        have HB15 := hide ((unhide HB14).step hb)
        have HBO15 := hide ((unhide HBO14).below hb)
        have HVR15 := hide ((unhide HVR14).keep (.bel hb))
        have HVP15 := hide ((unhide HVP14).keep (.bel hb))
        have HOL15 := hide ((unhide HOL14).keep (.bel hb))
        refine hK.out _ _ (unhide HCL w15 (unhide HBO15) (unhide HB15)) (fun hS5 => ?_)
        clear hK K hb HPS14 HPF14 HB14 HBO14 HVR14 HVP14 HOL14
        have hdec : (((pl2.length : Nat) : Int) == ((V : Nat) : Int)) = decide (pl2.length = V) := by rw [Bool.eq_iff_iff, beq_iff_eq, decide_eq_true_eq]; omega
        obtain ⟨dd, hdd⟩ : ∃ dd, decide (pl2.length = V) = dd := ⟨_, rfl⟩
        rw [hdd] at hdec
        have hdn : (dd != dd) = false := by cases dd <;> rfl
        have HDD := hide hdd
        clear hdd
        refine wpAnyH_take (i := 29) (v := ?_) rfl (by kernel_rfl) (by kernel_rfl) (by kernel_rfl) (fun _ _ _ h => h) (Or.inl ⟨by rfl, ?_⟩) hS5 ?_
        rotate_left
        · intro u hu; (try dsimp only at hu); go_simp; try with_reducible rfl
        simp only [Act.put, List.getElem_toArray, List.getElem_cons_zero, List.getElem_cons_succ, List.setIfInBounds_toArray, List.set_cons_zero, List.set_cons_succ]
        refine wpAnyH_take (i := 30) (v := ?_) rfl (by kernel_rfl) (by kernel_rfl) (by kernel_rfl) (fun _ _ _ h => h) (Or.inl ⟨by rfl, ?_⟩) hS5 ?_
        rotate_left
        · intro u hu; (try dsimp only at hu); go_simp; try with_reducible rfl
        simp only [Act.put, List.getElem_toArray, List.getElem_cons_zero, List.getElem_cons_succ, List.setIfInBounds_toArray, List.set_cons_zero, List.set_cons_succ]
        refine wpAnyH_take (i := 31) (v := ?_) rfl (by kernel_rfl) (by kernel_rfl) (by kernel_rfl) (fun _ _ _ h => h) (Or.inl ⟨by rfl, ?_⟩) hS5 ?_
        rotate_left
        · intro u hu; (try dsimp only at hu); go_simp; try with_reducible rfl
        simp only [Act.put, List.getElem_toArray, List.getElem_cons_zero, List.getElem_cons_succ, List.setIfInBounds_toArray, List.set_cons_zero, List.set_cons_succ]
        refine wpAnyH_take (i := 32) (v := ?_) rfl (by kernel_rfl) (by kernel_rfl) (by kernel_rfl) (fun _ _ _ h => h) (Or.inl ⟨by rfl, ?_⟩) hS5 ?_
        rotate_left
        · intro u hu; (try dsimp only at hu); go_simp; try with_reducible rfl
        simp only [Act.put, List.getElem_toArray, List.getElem_cons_zero, List.getElem_cons_succ, List.setIfInBounds_toArray, List.set_cons_zero, List.set_cons_succ]
        refine wpAnyH_take (i := 34) (v := ?_) rfl (by kernel_rfl) (by kernel_rfl) (by kernel_rfl) (fun _ _ _ h => h) (Or.inl ⟨by rfl, ?_⟩) hS5 ?_
        rotate_left
        · intro u hu; (try dsimp only at hu); go_simp; try with_reducible rfl
        simp only [Act.put, List.getElem_toArray, List.getElem_cons_zero, List.getElem_cons_succ, List.setIfInBounds_toArray, List.set_cons_zero, List.set_cons_succ]
        refine wpAnyH_take (i := 35) (v := ?_) rfl (by kernel_rfl) (by kernel_rfl) (by kernel_rfl) (fun _ _ _ h => h) (Or.inl ⟨by rfl, ?_⟩) hS5 ?_
        rotate_left
        · intro u hu; (try dsimp only at hu); go_simp; try with_reducible rfl
        simp only [Act.put, List.getElem_toArray, List.getElem_cons_zero, List.getElem_cons_succ, List.setIfInBounds_toArray, List.set_cons_zero, List.set_cons_succ]
        refine wpAnyH_take (i := 36) (v := ?_) rfl (by kernel_rfl) (by kernel_rfl) (by kernel_rfl) (fun _ _ _ h => h) (Or.inl ⟨by rfl, ?_⟩) hS5 ?_
        rotate_left
        · intro u hu; (try dsimp only at hu); go_simp; try with_reducible rfl
        simp only [Act.put, List.getElem_toArray, List.getElem_cons_zero, List.getElem_cons_succ, List.setIfInBounds_toArray, List.set_cons_zero, List.set_cons_succ]
        refine wpAnyH_take (i := 37) (v := ?_) rfl (by kernel_rfl) (by kernel_rfl) (by kernel_rfl) (fun _ _ _ h => h) (Or.inl ⟨by rfl, ?_⟩) hS5 ?_
        rotate_left
        · intro u hu; (try dsimp only at hu); go_simp; try with_reducible rfl
        simp only [Act.put, List.getElem_toArray, List.getElem_cons_zero, List.getElem_cons_succ, List.setIfInBounds_toArray, List.set_cons_zero, List.set_cons_succ]
        refine wpAnyH_take (i := 38) (v := ?_) rfl (by kernel_rfl) (by kernel_rfl) (by kernel_rfl) (fun _ _ _ h => h) (Or.inl ⟨by rfl, ?_⟩) hS5 ?_
        rotate_left
        · intro u hu; (try dsimp only at hu); go_simp; try with_reducible rfl
        simp only [Act.put, List.getElem_toArray, List.getElem_cons_zero, List.getElem_cons_succ, List.setIfInBounds_toArray, List.set_cons_zero, List.set_cons_succ]
        refine wpAnyH_take (i := 39) (v := ?_) rfl (by kernel_rfl) (by kernel_rfl) (by kernel_rfl) (fun _ _ _ h => h) (Or.inl ⟨by rfl, ?_⟩) hS5 ?_
        rotate_left
        · intro u hu; (try dsimp only at hu); go_simp; try with_reducible rfl
        simp only [Act.put, List.getElem_toArray, List.getElem_cons_zero, List.getElem_cons_succ, List.setIfInBounds_toArray, List.set_cons_zero, List.set_cons_succ]
        refine wpAnyH_take (i := 40) (v := ?_) rfl (by kernel_rfl) (by kernel_rfl) (by kernel_rfl) (fun _ _ _ h => h) (Or.inl ⟨by rfl, ?_⟩) hS5 ?_
        rotate_left
        · intro u hu; (try dsimp only at hu); go_simp; try with_reducible rfl
        simp only [Act.put, List.getElem_toArray, List.getElem_cons_zero, List.getElem_cons_succ, List.setIfInBounds_toArray, List.set_cons_zero, List.set_cons_succ]
        refine wpAnyH_take (i := 41) (v := ?_) rfl (by kernel_rfl) (by kernel_rfl) (by kernel_rfl) (fun _ _ _ h => h) (Or.inl ⟨by rfl, ?_⟩) hS5 ?_
        rotate_left
        · intro u hu; (try dsimp only at hu); go_simp; try with_reducible rfl
        simp only [Act.put, List.getElem_toArray, List.getElem_cons_zero, List.getElem_cons_succ, List.setIfInBounds_toArray, List.set_cons_zero, List.set_cons_succ]
        obtain ⟨rcf, hff⟩ := (unhide HBO15).f.fb
        have CD := hide (done_any w15 N b V s ra8 rcf row2 pv8 pl2 hff)
        clear hff
        refine wpAnyH_ready (rs := [33]) (by kernel_rfl) (by simp) ?_
        refine AllReadyH.cons rfl (fun K hK => ?_) AllReadyH.nil
        go_simp
        refine (unhide CD).mono ?_
        rintro e w16 ⟨rfl, hb⟩
        rw [unhide HDD]
        have HB16 := hide ((unhide HB15).step hb)
        have HBO16 := hide ((unhide HBO15).below hb)
        have HVR16 := hide ((unhide HVR15).keep (.bel hb))
        have HVP16 := hide ((unhide HVP15).keep (.bel hb))
        have HOL16 := hide ((unhide HOL15).keep (.bel hb))
        refine hK.out _ _ (unhide HCL w16 (unhide HBO16) (unhide HB16)) (fun hS6 => ?_)
        clear hK K hb CD HB15 HBO15 HVR15 HVP15 HOL15
        refine wpAnyH_take (i := 42) (v := ?_) rfl (by kernel_rfl) (by kernel_rfl) (by kernel_rfl) (fun _ _ _ h => h) (Or.inl ⟨by rfl, ?_⟩) hS6 ?_
        rotate_left
        · intro u hu; (try dsimp only at hu); go_simp; try with_reducible rfl
        simp only [Act.put, List.getElem_toArray, List.getElem_cons_zero, List.getElem_cons_succ, List.setIfInBounds_toArray, List.set_cons_zero, List.set_cons_succ]
        refine wpAnyH_take (i := 43) (v := ?_) rfl (by kernel_rfl) (by kernel_rfl) (by kernel_rfl) (fun _ _ _ h => h) (Or.inl ⟨by rfl, ?_⟩) hS6 ?_
        rotate_left
        · intro u hu; (try dsimp only at hu); go_simp; try with_reducible rfl
        simp only [Act.put, List.getElem_toArray, List.getElem_cons_zero, List.getElem_cons_succ, List.setIfInBounds_toArray, List.set_cons_zero, List.set_cons_succ]
        refine wpAnyH_done (by kernel_rfl) ?_ _
        go_wp2_with fail
        have HRS := hide (show row.length ≤ 400 ∧ pl.length ≤ 100 by
          obtain ⟨_, _, _, hfo, _⟩ := unhide HOL16
          exact hfo.small)
        have CR := hide (show Calls Try.prog 11 #[.pointer (some ⟨o, 0, none⟩)] w16 fun e w' => ItsTold w16 w' row e ∧ Below w16.heap.size w16 w' by
          obtain ⟨oa, oc, ov, hfo, _⟩ := unhide HOL16
          exact row_any w16 o oa oc row hfo.cells.1 hfo.items hfo.rno (by have := hfo.small.1; omega))
        clear hS6 hS5 hS4 hS3 hS2 hS1 hS0 hdec hdn HDD
        refine (unhide CR).mono ?_
        rintro e w17 ⟨⟨vf, rfl, hof⟩, hb⟩
        have HVF17 := hide (show Vk 0 w17 vf row from owns_base hof (Nat.zero_le _))
        obtain ⟨f17, fc17, rfl⟩ := own_shape hof
        have HB17 := hide ((unhide HB16).step hb)
        have HBO17 := hide ((unhide HBO16).below hb)
        have HVR17 := hide ((unhide HVR16).keep (.bel hb))
        have HVP17 := hide ((unhide HVP16).keep (.bel hb))
        have HOL17 := hide ((unhide HOL16).keep (.bel hb))
        clear hof hb CR HB16 HBO16 HVR16 HVP16 HOL16
        go_wp2_with fail
        refine (sameItems_yes w17 f17 r1 fc17 rc1 row ((unhide HVF17).is (unhide HRS).1) ((unhide HVR17).is (unhide HRS).1)).mono ?_
        rintro e w18 ⟨rfl, hb⟩
        have HB18 := hide ((unhide HB17).step hb)
        have HBO18 := hide ((unhide HBO17).below hb)
        have HVP18 := hide ((unhide HVP17).keep (.bel hb))
        have HOL18 := hide ((unhide HOL17).keep (.bel hb))
        clear hb HB17 HBO17 HVR17 HVP17 HOL17 HVF17
        have CP := hide (show Calls Try.prog 12 #[.pointer (some ⟨o, 0, none⟩)] w18 fun e w' => (∃ v, e = .returned v ∧ w'.ownsRow w18.heap.size 3 1 v pl.length (zcells (toIs pl))) ∧ Below w18.heap.size w18 w' by
          obtain ⟨oa, oc, ov, hfo, _⟩ := unhide HOL18
          exact placed_any w18 N o V s oa oc row ov pl hfo)
        go_wp2_with fail
        refine (unhide CP).mono ?_
        rintro e w19 ⟨⟨vf, rfl, hof⟩, hb⟩
        have HPF19 := hide (show Pk 0 w19 vf pl from owns_base hof (Nat.zero_le _))
        obtain ⟨f19, fc19, rfl⟩ := own_shape hof
        have HB19 := hide ((unhide HB18).step hb)
        have HBO19 := hide ((unhide HBO18).below hb)
        have HVP19 := hide ((unhide HVP18).keep (.bel hb))
        clear hof hb CP HB18 HBO18 HVP18 HOL18
        go_wp2_with fail
        refine (sameI_yes w19 f19 p1 pl.length fc19 pc1 (toIs pl) ((unhide HPF19).ns (by have := (unhide HRS).2; omega)) ((unhide HVP19).ns (by have := (unhide HRS).2; omega))).mono ?_
        rintro e w20 ⟨rfl, hb⟩
        have HB20 := hide ((unhide HB19).step hb)
        have HBO20 := hide ((unhide HBO19).below hb)
        clear hb HB19 HBO19 HVP19 HPF19
        go_wp2_with fail
        go_loopw [17, 18] (fun r i wr2 => ∃ (k : Nat) (l : List Nat), i = .int .i64 k ∧ k ≤ V ∧ Hid (Below w20.heap.size w20 wr2) ∧ Hid (Pk w20.heap.size wr2 r l) ∧ Hid (IsR (ReadyAt V es src row2 pl2) k l)) (fun r i wr2 => V - (intOf i).toNat)
        case atStart => exact ⟨0, [], rfl, by omega, b_al _, owns_lit_empty w20 3 1 w20.heap.size (Nat.le_refl _), .zero _⟩
        case round =>
          obtain ⟨k, l, rfl, hk, HBL, HPK, HIR⟩ := hrel
          obtain ⟨lr, lrc, hlr⟩ := own_shape (unhide HPK)
          subst hlr
          have HBk := hide ((unhide HB20).step (unhide HBL))
          obtain ⟨g0, g1⟩ := (unhide HBk).cells
          by_cases hkV : k < V
          · have hkVi : (k : Int) < (V : Int) := by omega
            have hwk : IntKind.i64.wrap ((k : Int) + 1) = ((k + 1 : Nat) : Int) := by rw [IntKind.wrap_i64]; have := unhide HV64; omega
            have CR := hide (refReady_any ‹World› rb V a cap es xa' xc' row2 ya' yc' pl2 src ((unhide HBO20).r.below (unhide HBL)) (unhide HBO20).i (unhide HP) (unhide HSRC) (k : Nat))
            go_wp2_with fail
            refine (unhide CR).mono ?_
            rintro e w22 ⟨⟨r, rfl, hr⟩, hb⟩
            have HB22 := hide ((unhide HBL).trans (hb.mono (unhide HBL).size))
            have HPK22 := hide ((unhide HPK).keep (.bel hb))
            cases r with
            | true =>
              have HIY := hide ((unhide HIR).yes (by
                obtain ⟨y, hy, hyr⟩ := hr.1 rfl
                obtain rfl : y = k := by omega
                exact hyr))
              have hl64 : l.length ≤ 64 := by have := (unhide HIR).len; have := unhide HV64; omega
              clear hr hb CR HPK HBL HIR g0 g1 HBk
              go_wp2_with (at_builtin; refine wpList_app_ints rfl (.tmp 161) (.tmp 163) rfl w20.heap.size _ l.length (toIs l) rfl ((unhide HPK22).alloc _) (some ⟨w22.heap.size, 0, none⟩) 1 1 [(k : Int)] rfl (fun h => by cases h) (ns_lit w22 _) ?b1 ?b2 ?_)
              case b1 => omega
              case b2 => have := (unhide HB22).size; simp; omega
              intro v8 w8 own8 hg8
              have HB24 := hide (((unhide HB22).alloc (unhide HB22).size _).grown hg8 (by have := (unhide HB22).size; simp; omega) (fun b hb => ((unhide HPK22).lt b hb).1))
              have HPK24 := hide (show Pk w20.heap.size w8 v8 (l ++ [k]) by
                unfold Pk
                rw [← toIs_snoc, List.length_append]
                exact own8)
              clear own8 hg8
              go_wp2_with fail
              go_roundw
              case rel => exact ⟨k + 1, l ++ [k], by go_num, by omega, HB24, HPK24, HIY⟩
              case measure => simp [intOf]; omega
            | false =>
              have HIX := hide ((unhide HIR).no (fun h => by have := hr.2 ⟨k, rfl, h⟩; cases this))
              clear hr hb CR HPK HBL HIR g0 g1 HBk
              go_wp2_with fail
              go_roundw
              case rel => exact ⟨k + 1, l, by go_num, by omega, HB22, HPK22, HIX⟩
              case measure => simp [intOf]; omega
          · have hkVi : ¬ (k : Int) < (V : Int) := by omega
            have HIR2 := hide (show IsR (ReadyAt V es src row2 pl2) V l by
              have := unhide HIR
              rw [show k = V by omega] at this
              exact this)
            have HBOr := hide ((unhide HBO20).below (unhide HBL))
            have CY := hide (fun (u : World) (hu : Bo N b rb V es src s a cap u ra8 pv8 row2 pl2 xa' xc' ya' yc' row2 pl2) => (show Calls Try.prog 19 #[.pointer (some ⟨b, 0, none⟩)] u fun e u' => (∃ v, e = .returned v ∧ u'.ownsRow u.heap.size 3 1 v l.length (zcells (toIs l))) ∧ Below u.heap.size u u' from by
              obtain ⟨rcf, hff⟩ := hu.f.fb
              have hsrt := (unhide HIR2).srt hu.i (unhide HP) (unhide HSRC)
              have hlen : ((wholeF V es src row2 pl2).map Bn.head).length = l.length := by rw [← (srtZ_perm _).length_eq, hsrt, toIs_length]
              have := ready_any u N b V es s ra8 rcf row2 pv8 pl2 hff hu.f.sn.sd (unhide HP) src (unhide HSRC) (hu.i.rowOk (unhide HP))
              rw [hsrt, hlen] at this
              exact this))
            have hl64 : l.length ≤ 64 := by have := (unhide HIR2).len; have := unhide HV64; omega
            go_wp2_with fail
            refine (unhide CY _ (unhide HBOr)).mono ?_
            rintro e w23 ⟨⟨v, rfl, ho⟩, hb⟩
            have HPY23 := hide (show Pk 0 w23 v l from owns_base ho (Nat.zero_le _))
            obtain ⟨f23, fc23, rfl⟩ := own_shape ho
            have HPK23 := hide ((unhide HPK).keep (.bel hb))
            have HBO23 := hide ((unhide HBOr).below hb)
            have HB23 := hide ((unhide HBk).step hb)
            clear ho hb CY HIR HIR2 HBOr HPK HBk HBL g0 g1 HB20 HBO20
            go_wp2_with fail
            refine (sameI_yes w23 f23 lr l.length fc23 lrc (toIs l) ((unhide HPY23).ns (by omega)) ((unhide HPK23).ns (by omega))).mono ?_
            rintro e w24 ⟨rfl, hb⟩
            have HBO24 := hide ((unhide HBO23).below hb)
            have HB24 := hide ((unhide HB23).step hb)
            clear hb HPY23 HPK23 HBO23 HB23
            have d2 := (unhide HBO24).r.cells.2.2.1
            obtain ⟨rn, hrn⟩ : ∃ rn, row2.length = rn := ⟨_, rfl⟩
            rw [hrn] at d2
            have HRN := hide hrn
            have hrn400 : rn ≤ 400 := by rw [← hrn]; exact (unhide HSM).1
            clear hrn
            by_cases h30 : rn ≤ 30
            · have h30i : (rn : Int) ≤ 30 := by omega
              have CT := hide (show Calls Try.prog 20 #[.pointer (some ⟨b, 0, none⟩)] w24 fun e w' => e = .returned (.bool (tgF [] [] ((bnF row2).map Bn.head))) ∧ Below w24.heap.size w24 w' by
                obtain ⟨rcf, hff⟩ := (unhide HBO24).f.fb
                exact tangled_any w24 b ra8 rcf row2 hff.cells.1 hff.items (by have := hff.small.1; omega))
              obtain ⟨tg, htg⟩ : ∃ tg, tgF [] [] ((bnF row2).map Bn.head) = tg := ⟨_, rfl⟩
              rw [htg] at CT
              have HTG := hide (show tg = true ↔ TgR row2 by rw [← htg]; exact tg_row (unhide HBO24).i)
              clear htg
              go_wp2_with fail
              refine (unhide CT).mono ?_
              rintro e w25 ⟨rfl, hb⟩
              have HBO25 := hide ((unhide HBO24).below hb)
              have HB25 := hide ((unhide HB24).step hb)
              have CU := hide (refTangled_any w25 rb V a cap es xa' xc' row2 ya' yc' pl2 (unhide HBO25).r (by have := unhide HRN; omega))
              clear hb CT HBO24 HB24 d2
              go_wp2_with fail
              refine (unhide CU).mono ?_
              rintro e w26 ⟨⟨r, rfl, hr⟩, hb⟩
              have hrt : r = tg := by
                rw [Bool.eq_iff_iff, hr]
                exact (unhide HTG).symm
              subst hrt
              have hdn : (r != r) = false := by cases r <;> rfl
              have HBO26 := hide ((unhide HBO25).below hb)
              have HB26 := hide ((unhide HB25).step hb)
              clear hb hr HTG CU HBO25 HB25
              go_wp2_with fail
              go_roundw
              case rel => exact ⟨q + 1, ra8, pv8, row2, pl2, xa', xc', ya', yc', by go_num, by omega, HBO26, HB26⟩
              case measure => simp [intOf]; omega
            · have h30i : ¬ (rn : Int) ≤ 30 := by omega
              go_wp2_with fail
              go_roundw
              case rel => exact ⟨q + 1, ra8, pv8, row2, pl2, xa', xc', ya', yc', by go_num, by omega, HBO24, HB24⟩
              case measure => simp [intOf]; omega
    · obtain rfl : q = an := by omega
      go_wp2_with fail
      go_ret
      exact ⟨rfl, (unhide HBr).bel⟩
end Go.Proofs.Ytdkchihomllokaa


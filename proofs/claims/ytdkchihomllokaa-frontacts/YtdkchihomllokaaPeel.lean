/-
  The contract of peel: the order of a graph, as far as it goes. Conditions: the view lies in memory as told, its edges' ends are vertices.
-/
import Derived.Test.YtdkchihomllokaaPlL
namespace Go.Proofs.Ytdkchihomllokaa
open Go.RowKit
set_option linter.unusedVariables false
set_option maxRecDepth 20000

/-- what holds at an outer round's head -/
structure PRel (w wr : World) (V : Nat) (es : List (Nat × Nat)) (l : List Nat) (v : Value) (f : Nat → Int) : Prop where
  run : Pl.Run V es l
  closed : Pl.Closed es l
  ends : Pl.peelF V es (V - l.length) l = Pl.order V es
  own : wr.ownsRow (w.heap.size + 1) 3 1 v l.length (zcells (toIs l))
  row : RowAt wr w.heap.size 0 V f
  vals : ∀ y, y < V → f y = Pl.wt es l y
  bel : Below w.heap.size w wr

theorem PRel.ns {w wr : World} {V : Nat} {es : List (Nat × Nat)} {l : List Nat} {v : Value} {f : Nat → Int} (h : PRel w wr V es l v f) (hV : V ≤ 64) : Ns wr (some ⟨w.heap.size, 0, none⟩) V (listOf V f) := h.row.ns (by omega)

theorem PRel.mid {w w' w4 : World} {V : Nat} {es : List (Nat × Nat)} {l : List Nat} {v : Value} {f : Nat → Int} {x : Nat} (h : PRel w w' V es l v f) (hx : Pl.next V es l = some x)
    (hg : ((w'.setCell ⟨w.heap.size, x, none⟩ (.int .i64 (-1))).alloc (.cells #[.int .i64 x] 3)).grownBy w4 v.ownBlock) :
    RowAt w4 w.heap.size 0 V (fun y => Pl.wtj es l x 0 y) ∧ Below w.heap.size w w4 := by
  have hsz := h.row.lt
  have hlt : ∀ g, v.ownBlock = some g → w.heap.size + 1 ≤ g := fun g hv => (h.own.lt g hv).1
  constructor
  · have h1 := h.row.set x (-1)
    rw [Nat.zero_add] at h1
    have h2 : RowAt w4 w.heap.size 0 V (fun t => if t = x then -1 else f t) := by
      refine h1.keep ?_
      rw [hg.block _ (by simp [World.setCell]; omega) (fun he => by have := hlt _ he.symm; omega)]
      exact Below.heap_alloc _ _ _ (by simpa [World.setCell] using hsz)
    refine h2.congr fun t ht => ?_
    rw [Pl.wtj_zero, h.vals t ht]
  · have h1 : Below w.heap.size w (w'.setCell ⟨w.heap.size, x, none⟩ (.int .i64 (-1))) := h.bel.setCell (p := ⟨w.heap.size, x, none⟩) (Nat.le_refl _) _
    exact (h1.alloc (by simp [World.setCell]; omega) _).grown hg (by simp [World.setCell]; omega) fun k hk => by have := hlt k hk; omega

theorem PRel.next {w w' w4 w5 : World} {V : Nat} {es : List (Nat × Nat)} {l : List Nat} {v v2 : Value} {f : Nat → Int} {x : Nat} (h : PRel w w' V es l v f) (hx : Pl.next V es l = some x)
    (ho : w4.ownsRow (w.heap.size + 1) 3 1 v2 (l.length + 1) (zcells (toIs (l ++ [x])))) (hb : Below w.heap.size w w4) (ha : Adv w.heap.size w4 w5) (hr : RowAt w5 w.heap.size 0 V (Pl.wtj es l x (Pl.outs es x).length)) :
    PRel w w5 V es (l ++ [x]) v2 (Pl.wtj es l x (Pl.outs es x).length) := by
  have hrd := (Pl.next_some hx).1
  refine ⟨h.run.snoc hx, h.closed.snoc hrd, ?_, ?_, hr, fun y hy => Pl.wtj_end hrd, hb.trans (ha.below (Nat.le_refl _))⟩
  · rw [← h.ends, Pl.peelF_step h.run hx]
  · rw [List.length_append]
    exact owns_adv ho ha (by omega)

theorem lenV_owns {w : World} {base : Nat} {e : TypeId} {v : Value} {n : Nat} {xs : List Value} (h : w.ownsRow base e 1 v n xs) : lenV v = n := by
  rcases h.2 with ⟨rfl, rfl⟩ | ⟨g, cap, cur, rfl, _⟩
  · rfl
  · rfl

set_option maxHeartbeats 4000000 in
theorem peel_any (w : World) (b V : Nat) (es : List (Nat × Nat)) (ea : Option Addr) (ec : Nat) (oa : Option Addr) (oc : Nat) (ia : Option Addr) (ic : Nat) (ra : Option Addr) (rc : Nat) (ord : List Nat)
    (hp : Plain V es) (h : Vw w b V es ea ec oa oc ia ic ra rc ord) :
    Calls Try.prog 51 #[.pointer (some ⟨b, 0, none⟩)] w fun e w' => (∃ v, e = .returned v ∧ w'.ownsRow w.heap.size 3 1 v (Pl.order V es).length (zcells (toIs (Pl.order V es)))) ∧ Below w.heap.size w w' := by
  have hv64 := hp.v64
  have hv1 := hp.v1
  have hn128 := hp.n128
  have HP := hide hp
  have HV := hide h
  have c0 := h.c0
  have c3 := h.c3
  have hbl := h.lt
  obtain ⟨i0, hi0, hz0, hz1, hz2⟩ := info_parts info3
  have HI := hide hi0
  have HZ0 := hide hz0
  have HZ1 := hide hz1
  have HZ2 := hide hz2
  have hzb : i0.bytes * V ≤ 281474976710656 := by rw [hz2]; omega
  clear hi0 hz0 hz1 hz2 h hp
  go_enter Try.func51, Try.ntmps51
  go_wp2_with (refine wpList_make_full _ rfl (.tmp 14) (.tmp 14) 34 rfl w.heap.size 3 i0 (.int .i64 0) 1 Try.underlying34 (unhide HI) (unhide HZ0) (unhide HZ1) .i64 .i64 _ _ V rfl rfl rfl rfl hzb ?m1 ?m2 ?_)
  case m1 => unfold maxLen; omega
  case m2 => exact Nat.le_refl _
  intro w1 hown1 hg1
  have hrow1 : RowAt w1 w.heap.size 0 V (fun t => 0) := by
    have : (madeCells #[Value.int IntKind.i64 0] V).toList = zcells (List.replicate V 0) := by
      rw [toList_madeCells_one]
      simp [zcells]
    rw [this] at hown1
    refine (RowAt.of_owns hown1).congr (fun t ht => ?_)
    simp [List.getD, ht]
  have HR1 := hide hrow1
  have hb1 : Below w.heap.size w w1 := (Below.refl _ _).grown hg1 (Nat.le_refl _) (fun k hk => by cases hk)
  have HB1 := hide hb1
  have d3 : w1.cell? ⟨b, 3, none⟩ = some (.slice ia V ic) := by rw [hb1.cell (p := ⟨b, 3, none⟩) hbl]; exact c3
  have hsz1 : w.heap.size < w1.heap.size := hrow1.lt
  clear hown1 hg1 hrow1 hb1
  go_wp2_with fail
  go_loopw [21] (fun i wr => ∃ (k : Nat) (f : Nat → Int), i = .int .i64 k ∧ k ≤ V ∧ Hid (RowAt wr w.heap.size 0 V f) ∧ Hid (∀ y, y < k → f y = (Pl.ins es y).length) ∧ Adv w.heap.size w1 wr) (fun i wr => V - (intOf i).toNat)
  case atStart => exact ⟨0, _, rfl, by omega, unhide HR1, fun y hy => by omega, Adv.refl _ _⟩
  case round =>
    obtain ⟨k, f, rfl, hk, HF, HK, hadv⟩ := hrel
    by_cases hlt : k < V
    · have hbr : Below w.heap.size w wr := (unhide HB1).trans (hadv.below (Nat.le_refl _))
      obtain ⟨g, off, ak, ck, ha, hg, cc, _, _, hN⟩ := (unhide HV).ins k hlt
      subst ha
      have r0 : wr.cell? ⟨g, off + k, none⟩ = some (.slice ak (Pl.ins es k).length ck) := by rw [hbr.cell (p := ⟨g, off + k, none⟩) hg]; exact cc
      have s0 := (unhide HF).cell (t := k) hlt
      have s1 := (unhide HF).fz (0 + k)
      rw [Nat.zero_add] at s0 s1
      obtain ⟨m, hm⟩ : ∃ m, (Pl.ins es k).length = m := ⟨_, rfl⟩
      rw [hm] at r0
      have HM := hide hm
      have HADV := hide hadv
      have hlt2 : (k : Int) < (V : Int) := by omega
      clear hm cc hN hbr hadv
      go_wp2_with fail
      go_roundw
      case rel =>
        refine ⟨k + 1, _, by go_num, by omega, by have := (unhide HF).set k (m : Int); rw [Nat.zero_add] at this; exact this, fun y hy => ?_, (unhide HADV).setCell _ _⟩
        by_cases hyk : y = k
        · subst hyk
          simp [unhide HM]
        · simp only [hyk, if_false]
          exact unhide HK y (by omega)
      case measure => simp [intOf]; omega
    · obtain rfl : k = V := by omega
      have hbr : Below w.heap.size w wr := (unhide HB1).trans (hadv.below (Nat.le_refl _))
      have hP0 : PRel w wr k es [] (.slice none 0 0) f := ⟨Pl.Run.nil _ _, fun e he h => by simp at h, rfl, World.ownsRow_nil _ _ _ _, unhide HF, fun y hy => by rw [unhide HK y hy, Pl.wt, if_neg (by simp), Pl.cnt_nil], hbr⟩
      have HP0 := hide hP0
      clear hP0 hbr hadv HF HK HR1
      go_wp2_with fail
      go_loopw [3] (fun v wx => ∃ (l : List Nat) (f : Nat → Int), Hid (PRel w wx k es l v f)) (fun v wx => k + 1 - lenV v)
      case atStart => exact ⟨[], _, HP0⟩
      case round =>
        obtain ⟨l, f2, HR⟩ := hrel
        have hlen := lenV_owns (unhide HR).own
        have HLEN := hide hlen
        have hbx := (unhide HR).bel
        have hnsx := (unhide HR).ns (by omega)
        have HNX := hide hnsx
        clear hlen hnsx
        cases hnx : Pl.next k es l with
        | none =>
          have hix := (ix_next (unhide HR).vals).2 hnx
          have HNE := hide hnx
          have HIX := hide hix
          have HBX := hide hbx
          clear hnx hix hbx
          go_wp2_with fail
          refine (index_any _ _ k k _ 0 (unhide HNX)).mono ?_
          rintro e w' ⟨rfl, rfl⟩
          rw [unhide HIX]
          go_wp2_with fail
          go_ret
          have he := (unhide HR).ends
          rw [Pl.peelF_stop _ (unhide HNE)] at he
          rw [← he]
          exact ⟨⟨_, rfl, owns_mono (unhide HR).own (by omega)⟩, unhide HBX⟩
        | some x =>
          have hix := (ix_next (unhide HR).vals).1 x hnx
          have HNE := hide hnx
          have HIX := hide hix
          obtain ⟨hrdy, hxV, _⟩ := Pl.next_some hnx
          have HRDY := hide hrdy
          have s0 := (unhide HR).row.cell (t := x) hxV
          have s1 := (unhide HR).row.fz (0 + x)
          rw [Nat.zero_add] at s0 s1
          have hroom := (unhide HR).run.room hnx
          have hszx : w.heap.size < wr.heap.size := (unhide HR).row.lt
          have HBX := hide hbx
          have hxV2 : (x : Int) < (k : Int) := by omega
          have hown : (wr.setCell ⟨w.heap.size, x, none⟩ (.int .i64 (-1))).ownsRow (w.heap.size + 1) 3 1 u3 l.length (zcells (toIs l)) := ownsRow_setCell_below (unhide HR).own (by simp) _
          have HOWN := hide hown
          clear hnx hix hbx hrdy hown
          go_wp2_with fail
          refine (index_any _ _ k k _ 0 (unhide HNX)).mono ?_
          rintro e w' ⟨rfl, rfl⟩
          rw [unhide HIX]
          go_wp2_with (at_builtin; refine wpList_append_own _ rfl (.tmp 40) (.tmp 42) 34 rfl (w.heap.size + 1) 3 i0 (.int .i64 0) 1 8 Try.underlying34 (unhide HI) (unhide HZ0) (unhide HZ1) (unhide HZ2) rfl (by decide) u3 l.length (zcells (toIs l)) rfl ((unhide HOWN).alloc _) ⟨w'.heap.size, 0, none⟩ 1 1 [.int .i64 x] rfl rfl ?a1 ?a2 ?a3 ?a4 ?a5 ?_)
          case a1 =>
            have hone := cell_one_new (w'.setCell ⟨w.heap.size, x, none⟩ (.int .i64 (-1))) (.int .i64 (x : Int)) 3
            rw [show (w'.setCell ⟨w.heap.size, x, none⟩ (.int .i64 (-1))).heap.size = w'.heap.size by simp [World.setCell]] at hone
            exact hone
          case a2 => intro u hu; simp at hu; subst hu; rfl
          case a3 => unfold maxLen; omega
          case a4 => omega
          case a5 => simp; omega
          intro v2 w4 hown4 hg4 _
          have hmid := PRel.mid (unhide HR) (unhide HNE) hg4
          rw [zcells_snoc, toIs_snoc] at hown4
          obtain ⟨hrow4, hb4⟩ := hmid
          have HROW4 := hide hrow4
          have HB4 := hide hb4
          have HO4 := hide hown4
          obtain ⟨g, off, ak, ck, ha, hg, cc, _, _, hN⟩ := (unhide HV).outs x hxV
          subst ha
          have q2 : w4.cell? ⟨b, 2, none⟩ = some (.slice (some ⟨g, off, none⟩) k oc) := by rw [hb4.cell (p := ⟨b, 2, none⟩) hbl]; exact (unhide HV).c2
          have q0 : w4.cell? ⟨g, off + x, none⟩ = some (.slice ak (Pl.outs es x).length ck) := by rw [hb4.cell (p := ⟨g, off + x, none⟩) hg]; exact cc
          have HNS := hide hN
          have hol : (Pl.outs es x).length ≤ es.length := Pl.sel_len _ _ _
          obtain ⟨m, hm⟩ : ∃ m, (Pl.outs es x).length = m := ⟨_, rfl⟩
          rw [hm] at q0
          rw [hm] at hol
          have HM := hide hm
          clear hown4 hg4 hb4 hrow4 s0 s1 hN cc hm
          go_wp2_with fail
          go_loopw [52] (fun i wx => ∃ j : Nat, i = .int .i64 j ∧ j ≤ m ∧ Hid (RowAt wx w.heap.size 0 k (Pl.wtj es l x j)) ∧ Adv w.heap.size w4 wx) (fun i wx => m - (intOf i).toNat)
          case atStart => exact ⟨0, rfl, by omega, HROW4, Adv.refl _ _⟩
          case round =>
            obtain ⟨j, rfl, hj, HX, hadv⟩ := hrel
            have HADV := hide hadv
            by_cases hjm : j < m
            · have hbr : Below w.heap.size w wr := (unhide HB4).trans (hadv.below (Nat.le_refl _))
              obtain ⟨ga, offa, haa, hga, e0⟩ := ns_at (unhide HNS) (i := j) (by rw [unhide HM]; exact hjm)
              obtain ⟨ed, hed⟩ : ∃ ed, (Pl.outs es x).getD j 0 = ed := ⟨_, rfl⟩
              rw [hed] at e0
              have hedm : ed ∈ Pl.outs es x := by
                rw [← hed]
                have hjj : j < (Pl.outs es x).length := by rw [unhide HM]; exact hjm
                simp [List.getD, hjj]
              have hedl : ed < es.length := (Pl.mem_sel.1 hedm).1
              obtain ⟨ge, offe, hae, hge, f0, f1⟩ := es_at (unhide HV).edges hedl
              have hyV := ((unhide HP).at hedl).2
              obtain ⟨y, hy⟩ : ∃ y, (Pl.at' es ed).2 = y := ⟨_, rfl⟩
              rw [hy] at f1 hyV
              subst haa
              subst hae
              have r0 : wr.cell? ⟨ga, offa + j, none⟩ = some (.int .i64 (ed : Nat)) := by rw [hbr.cell (p := ⟨ga, offa + j, none⟩) hga]; exact e0
              have r1 : wr.cell? ⟨b, 1, none⟩ = some (.slice (some ⟨ge, offe, none⟩) es.length ec) := by rw [hbr.cell (p := ⟨b, 1, none⟩) hbl]; exact (unhide HV).c1
              have r2 : wr.cell? ⟨ge, offe + ed * 2 + 1, none⟩ = some (.int .i64 (y : Nat)) := by rw [hbr.cell (p := ⟨ge, offe + ed * 2 + 1, none⟩) hge]; exact f1
              have s0 := (unhide HX).cell (t := y) hyV
              have s1 := (unhide HX).fz (0 + y)
              rw [Nat.zero_add] at s0 s1
              have hwb := Pl.wtj_bd es l x j y
              have hstep : ∀ t, t < k → (if t = y then Pl.wtj es l x j y - 1 else Pl.wtj es l x j t) = Pl.wtj es l x (j + 1) t := by
                intro t ht
                rw [Pl.wtj_succ (unhide HR).closed (unhide HRDY) (by rw [unhide HM]; exact hjm), hed, hy]
                by_cases hty : t = y
                · subst hty; rfl
                · rw [if_neg hty, if_neg hty]
              have HSTEP := hide hstep
              obtain ⟨z, hz⟩ : ∃ z, Pl.wtj es l x j y = z := ⟨_, rfl⟩
              rw [hz] at s0 hwb
              have HZ := hide hz
              have hjm2 : (j : Int) < (m : Int) := by omega
              have hed2 : (ed : Int) < (es.length : Int) := by omega
              have hyV2 : (y : Int) < (k : Int) := by omega
              obtain ⟨hz1, hz2⟩ := hwb
              clear hbr e0 f0 f1 hed hy hstep hz hedm hadv
              go_wp2_with fail
              go_roundw
              case rel =>
                refine ⟨j + 1, by go_num, by omega, ?_, (unhide HADV).setCell _ _⟩
                have := (unhide HX).set y (z - 1)
                rw [Nat.zero_add] at this
                refine this.congr fun t ht => ?_
                rw [← unhide HSTEP t ht, unhide HZ]
              case measure => simp [intOf]; omega
            · obtain rfl : j = m := by omega
              clear hadv
              go_wp2_with fail
              go_roundw
              case rel => exact ⟨l ++ [x], _, PRel.next (unhide HR) (unhide HNE) (unhide HO4) (unhide HB4) (unhide HADV) (by have := unhide HX; rw [← unhide HM] at this; exact this)⟩
              case measure =>
                rw [lenV_owns (unhide HO4), unhide HLEN]
                simp
                omega
end Go.Proofs.Ytdkchihomllokaa

/-
  A string's bytes as a new row: what '[]byte(s)' lays at this program. Conditions: none.
-/
import Derived.Test.YtdcfhdpbpfgohaaDoorRead
import Derived.Laws.IdiomStrings
namespace Go.Proofs.YtdcfhdpbpfgohaaDoor
open Go.RowKit
set_option linter.unusedVariables false

/-- the row: its bytes at its head, and a mark behind its last cell -/
structure NewRow (w w1 : World) (l : List UInt8) (cap : Nat) (cur : Array Value) : Prop where
  at_ : w1.heap[w.heap.size]? = some (.cells cur 5 (cur.size, cur.size + 1))
  le : l.length ≤ cap
  sz : cur.size = cap
  hd : cur.toList.take l.length = l.map fun c => Value.int .u8 (c.toNat : Int)

theorem conv_bytes (w : World) (l : List UInt8) : ∃ cap cur w1,
    (convert 9 34 (.string ⟨l.toArray⟩)).run Tryd.prog w = .ok (.slice (some ⟨w.heap.size, 0, none⟩) l.length cap) w1 ∧ Below w.heap.size w w1 ∧ w1.heap.size = w.heap.size + 1 ∧
      Bs w1 (some ⟨w.heap.size, 0, none⟩) l.length l ∧ NewRow w w1 l cap cur ∧ (l.length ≤ maxLen → cap ≤ maxLen) := by
  have hsz : (ByteArray.mk l.toArray).size = l.length := by simp [ByteArray.size]
  have h := run_bytes_of_string (P := Tryd.prog) w 9 34 5 ⟨l.toArray⟩ Tryd.underlying9 Tryd.underlying34 Tryd.underlying5
  rw [hsz] at h
  have hge := grownCap_ge w l.length 0 5
  have hcsz : (bytesRow ⟨l.toArray⟩ (grownCap w l.length 0 5)).size = grownCap w l.length 0 5 := by
    simp only [bytesRow, hsz, Array.size_append, Array.size_map, Array.size_replicate, List.size_toArray]
    omega
  have hhd : (bytesRow ⟨l.toArray⟩ (grownCap w l.length 0 5)).toList.take l.length = l.map fun c => Value.int .u8 (c.toNat : Int) := by
    simp only [bytesRow, Array.toList_append, Array.toList_map]
    rw [List.take_left' (by simp)]
  have hat : (w.drew.alloc (.cells (bytesRow ⟨l.toArray⟩ (grownCap w l.length 0 5)) 5 ((bytesRow ⟨l.toArray⟩ (grownCap w l.length 0 5)).size, (bytesRow ⟨l.toArray⟩ (grownCap w l.length 0 5)).size + 1))).heap[w.heap.size]? = some (.cells (bytesRow ⟨l.toArray⟩ (grownCap w l.length 0 5)) 5 ((bytesRow ⟨l.toArray⟩ (grownCap w l.length 0 5)).size, (bytesRow ⟨l.toArray⟩ (grownCap w l.length 0 5)).size + 1)) :=
    (MapKept.heap_alloc w.drew _).1
  refine ⟨_, _, _, h, ⟨rfl, rfl, rfl, by simp, fun k hk => Below.heap_alloc w.drew _ k hk⟩, by simp, ⟨rfl, fun k hk => ⟨w.heap.size, 0, rfl, by simp, ?_⟩⟩, ⟨hat, hge, hcsz, hhd⟩, fun hm => grownCap_le_maxLen w _ 0 5 hm⟩
  rw [Nat.zero_add, cell_of_row _ _ k _ _ _ hat]
  have hk2 : (l.map fun c => Value.int .u8 (c.toNat : Int))[k]? = some (.int .u8 (l.getD k 0).toNat) := by simp [hk]
  rw [← hhd, List.getElem?_take, if_pos hk] at hk2
  simpa using hk2
end Go.Proofs.YtdcfhdpbpfgohaaDoor

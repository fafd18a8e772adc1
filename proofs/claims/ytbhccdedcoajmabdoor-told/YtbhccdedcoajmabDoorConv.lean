import Derived.Test.YtbhccdedcoajmabDoorTokRow
import Derived.Test.YtbhccdedcoajmabDoorChunks
import Derived.Lib.Strings
namespace Go.Proofs.YtbhccdedcoajmabDoor
open Go.RowKit

theorem Tryd.info90 : (Tryd.prog.info? 90).map (fun i => (i.zero, i.size, i.bytes)) = some (some (.agg #[.int .i64 0, .int .i64 0, .slice none 0 0]), 3, 40) := by kernel_rfl
/-- a number that fits -/
def I64 (x : Int) : Prop := -9223372036854775808 ≤ x ∧ x ≤ 9223372036854775807
/-- what a token may hold -/
def Held (t : Tok) : Prop := Bytes t.data ∧ t.data.length ≤ 255 ∧ I64 t.block ∧ I64 t.count
theorem conv_cells (b off cap : Nat) (zs : List Int) (w : World) (hz : Bytes zs) (hc : ∀ k (h : k < zs.length), w.cell? ⟨b, off + k, none⟩ = some (.int .u8 zs[k])) :
    (convert 26 9 (.slice (some ⟨b, off, none⟩) zs.length cap)).run Tryd.prog w = .ok (.string (bytesOf zs)) w := by
  have hn := nums_bytesOf hz
  have hs := bytesOf_size zs
  have := run_convert_bytes_back (P := Tryd.prog) w 26 9 5 ⟨b, off, none⟩ cap (bytesOf zs).data.toList Tryd.underlying26 Tryd.underlying5 Tryd.underlying9 (by
    intro j hj
    have hj' : j < (bytesOf zs).size := by simpa using hj
    have e := nums_at (bytesOf zs) j hj'
    have hj2 : j < zs.length := by omega
    have e2 : zs[j] = ((bytesOf zs)[j].toNat : Int) := by
      rw [← e]; simp only [hn]
    have := hc j hj2
    rw [e2] at this
    simp only [Addr.add]
    split
    · rename_i h0; subst h0; exact this
    · exact this)
  rw [Array.length_toList, ← ByteArray.size, hs] at this
  exact this
theorem Tryd.convNil (w : World) : (convert 26 9 (.slice none 0 0)).run Tryd.prog w = .ok (.string ⟨#[]⟩) w := by kernel_rfl
theorem conv_own {base : Nat} {v : Value} {zs : List Int} {w : World} (hz : Bytes zs) (h : w.ownsRow base 5 1 v zs.length (u8s zs)) :
    (convert 26 9 v).run Tryd.prog w = .ok (.string (bytesOf zs)) w := by
  rcases own_shape h with ⟨rfl, rfl⟩ | ⟨g, cap, rfl, _⟩
  · exact Tryd.convNil w
  · exact conv_cells g 0 cap zs w hz (fun k hk => by rw [Nat.zero_add]; exact own_cells h k hk)

theorem text_eq (a b : ByteArray) : (a.toList == b.toList) = decide (nums a = nums b) := by
  rw [Lib.toList_data, Lib.toList_data, Bool.eq_iff_iff]
  simp only [beq_iff_eq, decide_eq_true_eq]
  constructor
  · intro h; unfold nums; rw [h]
  · intro h; rw [nums_inj h]
theorem textOf_eq {zs ys : List Int} (hz : Bytes zs) (hy : Bytes ys) : ((bytesOf zs).toList == (bytesOf ys).toList) = decide (zs = ys) := by
  rw [text_eq, nums_bytesOf hz, nums_bytesOf hy]
theorem cell_new {w : World} {cs : Array Value} {t : TypeId} {b j : Nat} {v : Value} (hb : b = w.heap.size) (hj : cs[j]? = some v) : (w.alloc (.cells cs t)).cell? ⟨b, j, none⟩ = some v := by
  subst hb; exact cell_row (heap_alloc_new w _) hj
theorem grown_below {w w' : World} {row : Option Nat} (h : Below w.heap.size w w') : w.grownBy w' row := ⟨h.os, h.tape, h.output, h.size, fun k hk _ => h.block k hk⟩
theorem cells_below {w w' : World} {b off : Nat} {zs : List Int} (hc : ∀ k (h : k < zs.length), w.cell? ⟨b, off + k, none⟩ = some (.int .u8 zs[k])) (hb : Below w.heap.size w w') :
    ∀ k (h : k < zs.length), w'.cell? ⟨b, off + k, none⟩ = some (.int .u8 zs[k]) := fun k h => (hb.cell (p := ⟨b, off + k, none⟩) (World.block_lt_of_cell? w _ (hc k h))).trans (hc k h)
theorem cells_chunk {w : World} {b off : Nat} {zs : List Int} (hc : ∀ k (h : k < zs.length), w.cell? ⟨b, off + k, none⟩ = some (.int .u8 zs[k])) (B i : Nat) :
    ∀ k (h : k < (chunk zs B i).length), w.cell? ⟨b, (off + i * B) + k, none⟩ = some (.int .u8 (chunk zs B i)[k]) := by
  intro k h
  obtain ⟨h', e⟩ := chunk_at h
  rw [e, ← hc _ h', Nat.add_assoc]

theorem cells_part {w : World} {b off : Nat} {zs : List Int} (hc : ∀ k (h : k < zs.length), w.cell? ⟨b, off + k, none⟩ = some (.int .u8 zs[k])) (a m : Nat) :
    ∀ k (h : k < ((zs.drop a).take m).length), w.cell? ⟨b, (off + a) + k, none⟩ = some (.int .u8 ((zs.drop a).take m)[k]) := by
  intro k h
  have h' : a + k < zs.length := by rw [List.length_take, List.length_drop] at h; omega
  rw [List.getElem_take, List.getElem_drop, Nat.add_assoc]
  exact hc _ h'

end Go.Proofs.YtbhccdedcoajmabDoor

import Derived.Test.YtbhccdedcoajmabGreatDoorTokRow
import Derived.Test.YtbhccdedcoajmabGreatDoorToldM
import Derived.Lib.Strings
import Derived.Test.YtbhccdedcoajmabGreatDoorBatchM
import Derived.Deep.QuietTactic
import Derived.BigQuiet
import Derived.Laws.Strings2
namespace Go.Proofs.YtbhccdedcoajmabGreatDoor
open Go.RowKit

theorem Tryz.info196 : (Tryz.prog.info? 196).map (fun i => (i.zero, i.size, i.bytes)) = some (some (.agg #[.int .i64 0, .int .i64 0, .slice none 0 0]), 3, 40) := by kernel_rfl
/-- a number that fits -/
def I64 (x : Int) : Prop := -9223372036854775808 ≤ x ∧ x ≤ 9223372036854775807
/-- what a token may hold -/
def Held (t : Tok) : Prop := Bytes t.data ∧ t.data.length ≤ 255 ∧ I64 t.block ∧ I64 t.count
theorem conv_cells (b off cap : Nat) (zs : List Int) (w : World) (hz : Bytes zs) (hc : ∀ k (h : k < zs.length), w.cell? ⟨b, off + k, none⟩ = some (.int .u8 zs[k])) :
    (convert 25 9 (.slice (some ⟨b, off, none⟩) zs.length cap)).run Tryz.prog w = .ok (.string (bytesOf zs)) w := by
  have hn := nums_bytesOf hz
  have hs := bytesOf_size zs
  have := run_convert_bytes_back (P := Tryz.prog) w 25 9 5 ⟨b, off, none⟩ cap (bytesOf zs).data.toList Tryz.underlying25 Tryz.underlying5 Tryz.underlying9 (by
    intro j hj
    have hj' : j < (bytesOf zs).size := by simpa using hj
    have e := nums_at (bytesOf zs) j hj'
    have hj2 : j < zs.length := by omega
    have e2 : zs[j] = ((bytesOf zs)[j].toNat : Int) := by
      rw [← e]; simp only [hn]
    have := hc j hj2
    rw [e2] at this
    simp only [Addr.add]
    split
    · rename_i h0; subst h0; exact this
    · exact this)
  rw [Array.length_toList, ← ByteArray.size, hs] at this
  exact this
theorem Tryz.convNil (w : World) : (convert 25 9 (.slice none 0 0)).run Tryz.prog w = .ok (.string ⟨#[]⟩) w := by kernel_rfl
theorem conv_own {base : Nat} {v : Value} {zs : List Int} {w : World} (hz : Bytes zs) (h : w.ownsRow base 5 1 v zs.length (u8s zs)) :
    (convert 25 9 v).run Tryz.prog w = .ok (.string (bytesOf zs)) w := by
  rcases own_shape h with ⟨rfl, rfl⟩ | ⟨g, cap, rfl, _⟩
  · exact Tryz.convNil w
  · exact conv_cells g 0 cap zs w hz (fun k hk => by rw [Nat.zero_add]; exact own_cells h k hk)

theorem text_eq (a b : ByteArray) : (a.toList == b.toList) = decide (nums a = nums b) := by
  rw [Lib.toList_data, Lib.toList_data, Bool.eq_iff_iff]
  simp only [beq_iff_eq, decide_eq_true_eq]
  constructor
  · intro h; unfold nums; rw [h]
  · intro h; rw [nums_inj h]
theorem textOf_eq {zs ys : List Int} (hz : Bytes zs) (hy : Bytes ys) : ((bytesOf zs).toList == (bytesOf ys).toList) = decide (zs = ys) := by
  rw [text_eq, nums_bytesOf hz, nums_bytesOf hy]
theorem cell_new {w : World} {cs : Array Value} {t : TypeId} {b j : Nat} {v : Value} (hb : b = w.heap.size) (hj : cs[j]? = some v) : (w.alloc (.cells cs t)).cell? ⟨b, j, none⟩ = some v := by
  subst hb; exact cell_row (heap_alloc_new w _) hj
theorem grown_below {w w' : World} {row : Option Nat} (h : Below w.heap.size w w') : w.grownBy w' row := ⟨h.os, h.tape, h.output, h.size, fun k hk _ => h.block k hk⟩
theorem cells_below {w w' : World} {b off : Nat} {zs : List Int} (hc : ∀ k (h : k < zs.length), w.cell? ⟨b, off + k, none⟩ = some (.int .u8 zs[k])) (hb : Below w.heap.size w w') :
    ∀ k (h : k < zs.length), w'.cell? ⟨b, off + k, none⟩ = some (.int .u8 zs[k]) := fun k h => (hb.cell (p := ⟨b, off + k, none⟩) (World.block_lt_of_cell? w _ (hc k h))).trans (hc k h)
theorem cells_chunk {w : World} {b off : Nat} {zs : List Int} (hc : ∀ k (h : k < zs.length), w.cell? ⟨b, off + k, none⟩ = some (.int .u8 zs[k])) (B i : Nat) :
    ∀ k (h : k < (chunk zs B i).length), w.cell? ⟨b, (off + i * B) + k, none⟩ = some (.int .u8 (chunk zs B i)[k]) := by
  intro k h
  obtain ⟨h', e⟩ := chunk_at h
  rw [e, ← hc _ h', Nat.add_assoc]

theorem cells_part {w : World} {b off : Nat} {zs : List Int} (hc : ∀ k (h : k < zs.length), w.cell? ⟨b, off + k, none⟩ = some (.int .u8 zs[k])) (a m : Nat) :
    ∀ k (h : k < ((zs.drop a).take m).length), w.cell? ⟨b, (off + a) + k, none⟩ = some (.int .u8 ((zs.drop a).take m)[k]) := by
  intro k h
  have h' : a + k < zs.length := by rw [List.length_take, List.length_drop] at h; omega
  rw [List.getElem_take, List.getElem_drop, Nat.add_assoc]
  exact hc _ h'

end Go.Proofs.YtbhccdedcoajmabGreatDoor
namespace Go.Proofs.YtbhccdedcoajmabGreatDoor
open Go.RowKit

theorem grown_drewN {w w' : World} {row : Option Nat} (h : w.grownBy w' row) (q : Nat) : w.grownBy (w'.drewN q) row := by
  have hb := below_drewN (Below.refl w'.heap.size w') q
  exact h.trans ⟨hb.os, hb.tape, hb.output, hb.size, fun k hk _ => hb.block k hk⟩
theorem grown_refl (w : World) (row : Option Nat) : w.grownBy w row := ⟨rfl, rfl, rfl, Nat.le_refl _, fun _ _ _ => rfl⟩

theorem pow_le8 {m : Nat} (h : m ≤ 8) : (256 : Int) ^ m ≤ 18446744073709551616 := by
  have h : m = 0 ∨ m = 1 ∨ m = 2 ∨ m = 3 ∨ m = 4 ∨ m = 5 ∨ m = 6 ∨ m = 7 ∨ m = 8 := by omega
  rcases h with rfl | rfl | rfl | rfl | rfl | rfl | rfl | rfl | rfl <;> decide
theorem getN_take {l : List Int} {k : Nat} (h : k < l.length) : getN (l.take (k + 1)) = 256 * getN (l.take k) + l[k] := by rw [List.take_succ_eq_append_getElem h, getN_snoc]
theorem getN_bd {l : List Int} (h : Bytes l) : 0 ≤ getN l ∧ getN l < 256 ^ l.length := by
  rcases snoc_cases l with rfl | ⟨i, x, rfl⟩
  · simp [getN]
  · have hi : Bytes i := fun y hy => h y (by simp [hy])
    have hx := h x (by simp)
    have := getN_bd hi
    rw [getN_snoc, List.length_append, List.length_singleton, Int.pow_succ]
    omega
  termination_by l.length
  decreasing_by subst_vars; simp
/-- what a read of n bytes does to the place and to 'all is well' -/
def Step (s : ByteArray) (ok : Bool) (p n p' : Nat) (ok' : Bool) : Prop := (ok = true ∧ p + n ≤ s.size ∧ p' = p + n ∧ ok' = true) ∨ (ok' = false ∧ p' = p ∧ (ok = false ∨ s.size < p + n))
theorem grown_setNew {w w' : World} {row : Option Nat} (h : w.grownBy w' row) {b : Nat} (hb : w.heap.size ≤ b) (j : Nat) (u : Value) : w.grownBy (w'.setCell ⟨b, j, none⟩ u) row := by
  have h2 := (Below.refl 0 w').setCell (p := ⟨b, j, none⟩) (Nat.zero_le _) u
  exact ⟨h2.os.trans h.os, h2.tape.trans h.tape, h2.output.trans h.output, Nat.le_trans h.size h2.size, fun k hk hne => (Below.heap_setCell _ _ _ _ (by simp; omega)).trans (h.block k hk hne)⟩
theorem Step.le {s : ByteArray} {ok ok' : Bool} {p n p' : Nat} (h : Step s ok p n p' ok') (hp : p ≤ s.size) : p' ≤ s.size := by
  rcases h with ⟨_, h1, h2, _⟩ | ⟨_, h2, _⟩ <;> omega
theorem Step.ok {s : ByteArray} {ok ok' : Bool} {p n p' : Nat} (h : Step s ok p n p' ok') : ok' = (ok && decide (p + n ≤ s.size)) := by
  rcases h with ⟨rfl, h1, _, rfl⟩ | ⟨rfl, _, h2⟩
  · simp [h1]
  · rcases h2 with rfl | h2
    · rfl
    · rw [decide_eq_false (by omega)]; simp

theorem less_nums : ∀ x y : List UInt8, Op.bytesLess x y = ltL (x.map fun c => (c.toNat : Int)) (y.map fun c => (c.toNat : Int))
  | [], [] => rfl
  | _ :: _, [] => rfl
  | [], _ :: _ => rfl
  | a :: x, b :: y => by
    simp only [Op.bytesLess, ltL, List.map_cons, less_nums x y]
    congr 1
    · rw [Bool.eq_iff_iff]
      simp only [decide_eq_true_eq, UInt8.lt_iff_toNat_lt]
      omega
    · congr 1
      rw [Bool.eq_iff_iff]
      simp only [beq_iff_eq, decide_eq_true_eq]
      constructor
      · intro h; rw [h]
      · intro h; exact UInt8.toNat_inj.1 (by omega)
theorem ltL_tri : ∀ a b : List Int, (!ltL a b && !decide (a = b)) = ltL b a
  | [], [] => by simp [ltL]
  | _ :: _, [] => by simp [ltL]
  | [], _ :: _ => by simp [ltL]
  | a :: x, b :: y => by
    have ih := ltL_tri x y
    simp only [ltL, List.cons.injEq]
    rcases Int.lt_trichotomy a b with h | h | h
    · simp [h, show ¬ b < a by omega, show ¬ b = a by omega]
    · subst h
      simp [← ih]
    · simp [h, show ¬ a < b by omega, show ¬ a = b by omega]
theorem text_gtr (t l : ByteArray) : (!Op.bytesLess t.toList l.toList && !t.toList == l.toList) = ltL (nums l) (nums t) := by
  rw [← ltL_tri (nums t) (nums l), text_eq, Lib.toList_data, Lib.toList_data, less_nums]
  rfl

end Go.Proofs.YtbhccdedcoajmabGreatDoor
namespace Go.Proofs.YtbhccdedcoajmabGreatDoor
open Go.RowKit

def charB (c : Int) : Bool := decide (97 ≤ c ∧ c ≤ 122) || decide (48 ≤ c ∧ c ≤ 57) || decide (c = 46) || decide (c = 47)
theorem charB_iff (c : Int) : charB c = true ↔ (97 ≤ c ∧ c ≤ 122) ∨ (48 ≤ c ∧ c ≤ 57) ∨ c = 46 ∨ c = 47 := by
  simp only [charB, Bool.or_eq_true, decide_eq_true_eq]
  omega
theorem nameB_no {l : List Int} {k : Nat} (h : k < l.length) (hc : charB l[k] = false) : nameB l = false := by
  cases hn : nameB l with
  | false => rfl
  | true =>
    simp only [nameB, Bool.and_eq_true, List.all_eq_true] at hn
    have := hn.2 l[k] (List.getElem_mem h)
    rw [show (decide (97 ≤ l[k] ∧ l[k] ≤ 122) || decide (48 ≤ l[k] ∧ l[k] ≤ 57) || decide (l[k] = 46) || decide (l[k] = 47)) = charB l[k] from rfl, hc] at this
    cases this
theorem nameB_all {l : List Int} (h : ∀ k (hk : k < l.length), charB l[k] = true) : nameB l = (decide (1 ≤ l.length) && decide (l.length ≤ 12)) := by
  have : (l.all fun c => decide (97 ≤ c ∧ c ≤ 122) || decide (48 ≤ c ∧ c ≤ 57) || decide (c = 46) || decide (c = 47)) = true := by
    rw [List.all_eq_true]
    intro x hx
    obtain ⟨k, hk, rfl⟩ := List.getElem_of_mem hx
    exact h k hk
  rw [nameB, this, Bool.and_true]

end Go.Proofs.YtbhccdedcoajmabGreatDoor

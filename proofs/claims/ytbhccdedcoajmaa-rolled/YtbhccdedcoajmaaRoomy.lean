import Derived.Test.YtbhccdedcoajmaaSw
import Derived.Lib.BufferWrite
import Derived.Laws.MakeOwn
import Derived.Laws.Rows
namespace Go.Proofs.Ytbhccdedcoajmaa
open Go.RowKit

def u8s (l : List Int) : List Value := l.map (Value.int .u8)
theorem u8s_nums (s : ByteArray) : Lib.byteCells s.data.toList = u8s (nums s) := by simp [Lib.byteCells, u8s, nums, Function.comp_def]
theorem cell_row {w : World} {b k : Nat} {cs : Array Value} {t : TypeId} {fr : Nat × Nat} {v : Value} (h : w.heap[b]? = some (.cells cs t fr)) (hk : cs[k]? = some v) : w.cell? ⟨b, k, none⟩ = some v := by
  simp [World.cell?, h, hk]
theorem Try.info5 : (Try.prog.info? 5).map (fun i => (i.zero, i.size, i.bytes)) = some (some (.int .u8 0), 1, 1) := by kernel_rfl
theorem Try.size5 : (Try.prog.info? 5).map (·.size) = some 1 := by kernel_rfl

theorem wpList_copy_run {P : Program} (w : World) {ops : Array Oper} {rest : List Oper} {o : Oper} {a : Act} {Q : Exit → Act → World → Prop} (hgd : o.guard = none) (d s : Operand) (t t' : TypeId)
    (ho : o.op = .call { callee := .builtin .copy, args := #[d, s], argTypes := #[t, t'] }) (v u : Value) (hd : a.eval d = v) (hs : a.eval s = u) {v' : Value} {w' : World}
    (hr : (Builtin.copy_ #[t, t'] o.type #[v, u]).run P w = .ok v' w') (h : wpList P ops Q rest (a.put o.dst v') w') : wpList P ops Q (o :: rest) a w :=
  wpList_plain hgd fun _ hK => by
    unfold Oper.wp execOp
    simp only [ho, resolve, invoke, builtin, Sem.run_bind, Sem.run_pure, Result.andThen_ok, List.map_toArray, List.map_cons, List.map_nil, hd, hs, hr]
    exact hK _ _ h

/-- the row that 'roomy' lays: the bytes, then the two marks -/
theorem roomy_row (l M : List Value) (x y : Value) (hM : M.length = l.length + 2) :
    (((l ++ M.drop l.length).toArray.set! l.length x).set! (l.length + 1) y) = (l ++ [x, y]).toArray := by
  obtain ⟨p, q, h⟩ : ∃ p q, M.drop l.length = [p, q] := by
    have h2 : (M.drop l.length).length = 2 := by rw [List.length_drop]; omega
    match M.drop l.length, h2 with
    | [p, q], _ => exact ⟨p, q, rfl⟩
  rw [h]; apply Array.ext'; simp

set_option maxRecDepth 10000 in
set_option maxHeartbeats 400000 in
theorem roomy_any (s : ByteArray) (hm : s.size ≤ 70000) (w : World) :
    Calls Try.prog 5 #[.string s] w fun e w' => e = .returned (.slice (some ⟨w.heap.size, 0, none⟩) s.size (s.size + 2)) ∧
      w'.heap[w.heap.size]? = some (.cells (u8s (nums s) ++ [Value.int .u8 77, Value.int .u8 88]).toArray 5 (0, 0)) ∧ Below w.heap.size w w' := by
  obtain ⟨i0, hi, hz0, hz1, hz2⟩ := info_parts Try.info5
  have hmk : (Instr.makeSlice 22 (.int .i64 ((s.size : Int) + 2)) (.int .i64 ((s.size : Int) + 2))).run Try.prog w = .ok (.slice (some ⟨w.heap.size, 0, none⟩) (s.size + 2) (s.size + 2)) (w.alloc (.cells (madeCells #[.int .u8 0] (s.size + 2)) 5)) := by
    have := run_make (P := Try.prog) w 22 5 i0 _ Try.underlying22 hi hz0 .i64 .i64 ((s.size : Int) + 2) ((s.size : Int) + 2) (by omega) (by omega) (by rw [hz2]; omega) (by omega)
    rw [hz1] at this
    rw [show ((s.size : Int) + 2).toNat = s.size + 2 by omega, Nat.mul_one] at this
    exact this
  obtain ⟨M, hM⟩ : ∃ M, M = madeCells #[.int .u8 0] (s.size + 2) := ⟨_, rfl⟩
  have hMs : M.size = s.size + 2 := by rw [hM]; exact size_madeCells _ _
  rw [← hM] at hmk
  clear hM hi hz0 hz1 hz2
  have HMs := hide hMs
  have hg0 : (w.alloc (.cells M 5)).heap[w.heap.size]? = some (.cells M 5 (0, 0)) := heap_alloc_new _ _
  have hcp := Lib.run_copy_row_string (P := Try.prog) (w.alloc (.cells M 5)) 22 9 3 5 w.heap.size 0 (s.size + 2) (s.size + 2) s M 5 Try.underlying22 Try.size5 hg0 (by omega) (by omega)
  rw [u8s_nums] at hcp
  have hl : (u8s (nums s)).length = s.size := by simp [u8s, nums_length]
  obtain ⟨p, q, hD⟩ : ∃ p q, M.toList.drop s.size = [p, q] := by
    have h2 : (M.toList.drop s.size).length = 2 := by rw [List.length_drop, Array.length_toList]; omega
    match M.toList.drop s.size, h2 with
    | [p, q], _ => exact ⟨p, q, rfl⟩
  obtain ⟨W1, hW1⟩ : ∃ W1, W1 = (w.alloc (.cells M 5)).setRow w.heap.size (List.take 0 M.toList ++ u8s (nums s) ++ List.drop (0 + s.size) M.toList).toArray := ⟨_, rfl⟩
  rw [← hW1] at hcp
  have hg1 : W1.heap[w.heap.size]? = some (.cells (u8s (nums s) ++ [p, q]).toArray 5 (0, 0)) := by
    rw [hW1, setRow_heap _ _ _ _ 5 (0, 0) hg0]
    rw [List.take_zero, List.nil_append, Nat.zero_add, hD]
  have hb1 : Below w.heap.size w W1 := by
    rw [hW1]
    exact (((Below.refl _ _).alloc (Nat.le_refl _) _).trans ⟨rfl, rfl, rfl, by simp [World.setRow], fun k hk => setRow_other _ _ k _ (by omega)⟩)
  have hc1 : W1.cell? ⟨w.heap.size, s.size, none⟩ = some p := cell_row hg1 (by rw [List.getElem?_toArray, List.getElem?_append_right (by omega), hl]; simp)
  have hc2 : W1.cell? ⟨w.heap.size, s.size + 1, none⟩ = some q := cell_row hg1 (by rw [List.getElem?_toArray, List.getElem?_append_right (by omega), hl]; simp)
  have hf : ∀ j, W1.frozen? ⟨w.heap.size, j, none⟩ = false := fun j => frozen_of_row _ _ _ _ _ hg1
  have HG := hide hg1
  have HB := hide hb1
  have HL := hide hl
  clear hMs hg1 hb1 hW1 hg0 hl hD HMs
  go_enter Try.func5, Try.ntmps5
  go_wp2_with fail
  go_ret
  refine ⟨rfl, ?_, (HB.out.setCell (Nat.le_refl _) _).setCell (Nat.le_refl _) _⟩
  rw [heap_setCell_same _ _ _ _ _ _ (heap_setCell_same _ _ _ _ _ _ HG.out)]
  have := HL.out
  congr 2
  apply Array.ext'
  simp [this]

set_option maxRecDepth 10000 in
set_option maxHeartbeats 400000 in
theorem still_any (s : ByteArray) (hm : s.size ≤ 70000) (b : Nat) (w : World) (hg : w.heap[b]? = some (.cells (u8s (nums s) ++ [Value.int .u8 77, Value.int .u8 88]).toArray 5 (0, 0))) :
    Calls Try.prog 9 #[.slice (some ⟨b, 0, none⟩) s.size (s.size + 2), .string s] w fun e w' => e = .returned (.bool true) ∧ w' = w := by
  have hl : (u8s (nums s)).length = s.size := by simp [u8s, nums_length]
  have hc1 : w.cell? ⟨b, s.size, none⟩ = some (.int .u8 77) := cell_row hg (by rw [List.getElem?_toArray, List.getElem?_append_right (by omega), hl]; simp)
  have hc2 : w.cell? ⟨b, s.size + 1, none⟩ = some (.int .u8 88) := cell_row hg (by rw [List.getElem?_toArray, List.getElem?_append_right (by omega), hl]; simp)
  have hcv : (convert 22 9 (.slice (some ⟨b, 0, none⟩) s.size (s.size + 2))).run Try.prog w = .ok (.string s) w := by
    have := run_convert_bytes_back (P := Try.prog) w 22 9 5 ⟨b, 0, none⟩ (s.size + 2) s.data.toList Try.underlying22 Try.underlying5 Try.underlying9 (by
      intro j hj
      have hj' : j < s.size := by simpa using hj
      have := nums_at s j hj'
      refine (by simp [Addr.add]; omega : (Addr.add ⟨b, 0, none⟩ j) = ⟨b, j, none⟩) ▸ cell_row hg ?_
      rw [List.getElem?_toArray, List.getElem?_append_left (by omega)]
      simp only [u8s, List.getElem?_map, List.getElem?_eq_getElem (show j < (nums s).length by rw [nums_length]; exact hj'), Option.map_some]
      rw [this]; rfl)
    simpa using this
  clear hl hg
  go_enter Try.func9, Try.ntmps9
  go_wp2_with fail
  go_ret
  exact ⟨rfl, rfl⟩

theorem row_cells {s : ByteArray} {b : Nat} {w : World} (hg : w.heap[b]? = some (.cells (u8s (nums s) ++ [Value.int .u8 77, Value.int .u8 88]).toArray 5 (0, 0))) :
    ∀ k (h : k < (nums s).length), w.cell? ⟨b, 0 + k, none⟩ = some (.int .u8 (nums s)[k]) := by
  intro k h
  rw [Nat.zero_add]
  refine cell_row hg ?_
  rw [List.getElem?_toArray, List.getElem?_append_left (by simpa [u8s] using h)]
  simp [u8s, List.getElem?_eq_getElem h]
end Go.Proofs.Ytbhccdedcoajmaa

import Derived.Test.YtbhccdedcoajmabDoorSw
import Derived.Lib.BufferWrite
import Derived.Laws.MakeOwn
import Derived.Laws.Rows
namespace Go.Proofs.YtbhccdedcoajmabDoor
open Go.RowKit

def u8s (l : List Int) : List Value := l.map (Value.int .u8)
theorem u8s_nums (s : ByteArray) : Lib.byteCells s.data.toList = u8s (nums s) := by simp [Lib.byteCells, u8s, nums, Function.comp_def]
theorem cell_row {w : World} {b k : Nat} {cs : Array Value} {t : TypeId} {fr : Nat × Nat} {v : Value} (h : w.heap[b]? = some (.cells cs t fr)) (hk : cs[k]? = some v) : w.cell? ⟨b, k, none⟩ = some v := by
  simp [World.cell?, h, hk]
theorem Tryd.info5 : (Tryd.prog.info? 5).map (fun i => (i.zero, i.size, i.bytes)) = some (some (.int .u8 0), 1, 1) := by kernel_rfl
theorem Tryd.size5 : (Tryd.prog.info? 5).map (·.size) = some 1 := by kernel_rfl

theorem wpList_copy_run {P : Program} (w : World) {ops : Array Oper} {rest : List Oper} {o : Oper} {a : Act} {Q : Exit → Act → World → Prop} (hgd : o.guard = none) (d s : Operand) (t t' : TypeId)
    (ho : o.op = .call { callee := .builtin .copy, args := #[d, s], argTypes := #[t, t'] }) (v u : Value) (hd : a.eval d = v) (hs : a.eval s = u) {v' : Value} {w' : World}
    (hr : (Builtin.copy_ #[t, t'] o.type #[v, u]).run P w = .ok v' w') (h : wpList P ops Q rest (a.put o.dst v') w') : wpList P ops Q (o :: rest) a w :=
  wpList_plain hgd fun _ hK => by
    unfold Oper.wp execOp
    simp only [ho, resolve, invoke, builtin, Sem.run_bind, Sem.run_pure, Result.andThen_ok, List.map_toArray, List.map_cons, List.map_nil, hd, hs, hr]
    exact hK _ _ h

/-- the row that 'roomy' lays: the bytes, then the two marks -/
theorem roomy_row (l M : List Value) (x y : Value) (hM : M.length = l.length + 2) :
    (((l ++ M.drop l.length).toArray.set! l.length x).set! (l.length + 1) y) = (l ++ [x, y]).toArray := by
  obtain ⟨p, q, h⟩ : ∃ p q, M.drop l.length = [p, q] := by
    have h2 : (M.drop l.length).length = 2 := by rw [List.length_drop]; omega
    match M.drop l.length, h2 with
    | [p, q], _ => exact ⟨p, q, rfl⟩
  rw [h]; apply Array.ext'; simp

theorem row_cells {s : ByteArray} {b : Nat} {w : World} (hg : w.heap[b]? = some (.cells (u8s (nums s) ++ [Value.int .u8 77, Value.int .u8 88]).toArray 5 (0, 0))) :
    ∀ k (h : k < (nums s).length), w.cell? ⟨b, 0 + k, none⟩ = some (.int .u8 (nums s)[k]) := by
  intro k h
  rw [Nat.zero_add]
  refine cell_row hg ?_
  rw [List.getElem?_toArray, List.getElem?_append_left (by simpa [u8s] using h)]
  simp [u8s, List.getElem?_eq_getElem h]
end Go.Proofs.YtbhccdedcoajmabDoor

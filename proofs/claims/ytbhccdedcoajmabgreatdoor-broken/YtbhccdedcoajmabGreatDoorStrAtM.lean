import Derived.Test.YtbhccdedcoajmabGreatDoorConvM
import Derived.Lib.AppendStr
import Derived.Test.YtbhccdedcoajmabGreatDoorBatchM
import Derived.Test.YtbhccdedcoajmabGreatDoorMathM
namespace Go.Proofs.YtbhccdedcoajmabGreatDoor
open Go Go.RowKit Go.Lib

theorem strCells_nums (s : ByteArray) : strCells s = u8s (nums s) := by simp [strCells, u8s, nums, Function.comp_def]

/-- where the bytes of a text that are laid behind a row lie -/
theorem str_loc {P : Program} {w : World} {base : Nat} {t u ty e : TypeId} {i : TypeInfo} (ht : P.underlying t = some (.slice e)) (hu : P.underlying u = some .string) (hi : P.info? e = some i) (hz : i.zero = some (.int .u8 0)) (hsize : i.size = 1) (hby : i.bytes = 1)
    {v : Value} {n : Nat} {xs : List Value} (hown : w.ownsRow base e 1 v n xs) {s : ByteArray} (hbytes : n + s.size ≤ 140737488355328)
    {v' : Value} {w' : World} (hr : (Builtin.append_ #[t, u] ty #[v, .string s]).run P w = .ok v' w') (hnil : v' = .slice none 0 0 ↔ v = .slice none 0 0 ∧ s.size = 0) : v'.ownBlock = v.ownBlock ∨ v'.ownBlock = some w.heap.size := by
  have hxl : xs.length = n := by simpa using hown.1
  rcases hown.2 with ⟨rfl, rfl⟩ | ⟨g, cap, cur, rfl, _, hg, hnc, _, hcs, _⟩
  · by_cases hm : s.size = 0
    · rw [hnil.2 ⟨rfl, hm⟩]; exact .inl rfl
    · have h2 := run_append_nil_string (P := P) w t u ty e i (.int .u8 0) ht hu hi hz s (by omega) (by omega) (by rw [hby]; omega)
      rw [hr] at h2
      simp only [Result.ok.injEq] at h2
      rw [h2.1]; exact .inr rfl
  · by_cases hroom : n + s.size ≤ cap
    · have h2 := run_append_room_string (P := P) w t u ty e i ht hu hi hsize g n cap cur hg s hroom (by rw [hcs]; omega)
      rw [hr] at h2
      simp only [Result.ok.injEq] at h2
      rw [h2.1]; exact .inl rfl
    · have h2 := run_append_grow_string (P := P) w t u ty e i (.int .u8 0) ht hu hi hz ⟨g, 0, none⟩ n cap xs (by rw [hsize]; omega) (hown.cells (g := g) rfl) s (by omega) (by omega) (by rw [hby]; exact growslice_fits (by omega) (by omega))
      rw [hr] at h2
      simp only [Result.ok.injEq] at h2
      rw [h2.1]; exact .inr rfl

/-- all old blocks but v's own row stand; the new row is the old one or lies in new memory -/
def Grew (w w' : World) (v v' : Value) : Prop := w.grownBy w' v.ownBlock ∧ (v'.ownBlock = v.ownBlock ∨ ∃ k, w.heap.size ≤ k ∧ v'.ownBlock = some k)
theorem Grew.refl (w : World) (v : Value) : Grew w w v v := ⟨⟨rfl, rfl, rfl, Nat.le_refl _, fun _ _ _ => rfl⟩, .inl rfl⟩
theorem Grew.trans {w w1 w2 : World} {v v1 v2 : Value} (h : Grew w w1 v v1) (k : Grew w1 w2 v1 v2) : Grew w w2 v v2 := by
  refine ⟨⟨k.1.os.trans h.1.os, k.1.tape.trans h.1.tape, k.1.output.trans h.1.output, Nat.le_trans h.1.size k.1.size, fun b hb hne => ?_⟩, ?_⟩
  · refine (k.1.block b (Nat.lt_of_lt_of_le hb h.1.size) ?_).trans (h.1.block b hb hne)
    rcases h.2 with e | ⟨j, hj, e⟩
    · rw [e]; exact hne
    · rw [e]; simp; omega
  · rcases k.2 with e | ⟨j, hj, e⟩
    · rw [e]; exact h.2
    · exact .inr ⟨j, Nat.le_trans h.1.size hj, e⟩
theorem Grew.below {w w1 w2 : World} {v v1 : Value} (hb : Below w.heap.size w w1) (h : Grew w1 w2 v v1) : Grew w w2 v v1 := by
  refine ⟨⟨h.1.os.trans hb.os, h.1.tape.trans hb.tape, h.1.output.trans hb.output, Nat.le_trans hb.size h.1.size, fun b hk hne => (h.1.block b (Nat.lt_of_lt_of_le hk hb.size) hne).trans (hb.block b hk)⟩, ?_⟩
  rcases h.2 with e | ⟨j, hj, e⟩
  · exact .inl e
  · exact .inr ⟨j, Nat.le_trans hb.size hj, e⟩
theorem Grew.cell {w w' : World} {v v' : Value} (h : Grew w w' v v') {a : Addr} {x : Value} (hc : w.cell? a = some x) (hne : ∀ k, v.ownBlock = some k → k ≠ a.block) : w'.cell? a = some x :=
  h.1.cell hc (fun e => hne a.block e.symm rfl)
theorem Grew.far {w w' : World} {v v' : Value} (h : Grew w w' v v') {b : Nat} (hb : b < w.heap.size) (hne : ∀ k, v.ownBlock = some k → k ≠ b) : ∀ k, v'.ownBlock = some k → k ≠ b := by
  intro k hk
  rcases h.2 with e | ⟨j, hj, e⟩
  · exact hne k (e ▸ hk)
  · rw [e] at hk; simp at hk; omega

theorem wpList_append_str_at {P : Program} (w : World) {ops : Array Oper} {rest : List Oper} {o : Oper} {a : Act} {Q : Exit → Act → World → Prop} (hgd : o.guard = none) (sl x : Operand) (t u : TypeId)
    (ho : o.op = .call { callee := .builtin .append, args := #[sl, x], argTypes := #[t, u] })
    (base : Nat) (e : TypeId) (i : TypeInfo) (ht : P.underlying t = some (.slice e)) (hu : P.underlying u = some .string) (hi : P.info? e = some i) (hz : i.zero = some (.int .u8 0)) (hsize : i.size = 1) (hby : i.bytes = 1)
    (v : Value) (n : Nat) (xs : List Value) (hs : a.eval sl = v) (hown : w.ownsRow base e 1 v n xs) (s : ByteArray) (hx : a.eval x = .string s) (hbytes : n + s.size ≤ 140737488355328) (hbase : base ≤ w.heap.size)
    (h : ∀ v' w', w'.ownsRow base e 1 v' (n + s.size) (xs ++ strCells s) → Grew w w' v v' → wpList P ops Q rest (a.put o.dst v') w') : wpList P ops Q (o :: rest) a w := by
  refine wpList_plain hgd fun K hK => ?_
  obtain ⟨v', w', hr, h2, h3, h4⟩ := run_append_own_string (P := P) w base t u o.type e i ht hu hi hz hsize hby v n xs hown s (by unfold maxLen; omega) hbytes hbase
  have hl := str_loc ht hu hi hz hsize hby hown hbytes hr h4
  unfold Oper.wp execOp
  simp only [ho, resolve, invoke, builtin, Sem.run_bind, Sem.run_pure, Result.andThen_ok, List.map_toArray, List.map_cons, List.map_nil, hs, hx, hr]
  exact hK _ _ (h v' w' h2 ⟨h3, hl.imp id fun e => ⟨_, Nat.le_refl _, e⟩⟩)
end Go.Proofs.YtbhccdedcoajmabGreatDoor
namespace Go.Proofs.YtbhccdedcoajmabGreatDoor
open Go.RowKit

theorem putN_at (v : Int) : ∀ (n k : Nat) (h : k < n), (putN n v)[k]'(by rw [putN_length]; exact h) = v / 256 ^ (n - 1 - k) % 256
  | n + 1, 0, _ => by simp [putN]
  | n + 1, k + 1, h => by
    simp only [putN, List.getElem_cons_succ]
    rw [putN_at v n k (by omega), show n - 1 - k = n + 1 - 1 - (k + 1) by omega]

end Go.Proofs.YtbhccdedcoajmabGreatDoor
namespace Go.Proofs.YtbhccdedcoajmabGreatDoor
open Go.RowKit

theorem digest_bd (l : List Int) : 0 ≤ digestOf l ∧ digestOf l < 18446744073709551616 := by
  rcases snoc_cases l with rfl | ⟨i, x, rfl⟩
  · rw [digestOf_nil]; omega
  · rw [digestOf_snoc]; unfold dstep; rw [IntKind.wrap_u64]; omega

end Go.Proofs.YtbhccdedcoajmabGreatDoor

import Derived.Test.YtbhccdedcoajmabDoorMade
namespace Go.Proofs.YtbhccdedcoajmabDoor
open Go Go.RowKit

theorem fair_diffGo {zs : List Int} {B : Nat} (hB : 0 < B) (hm : zs.length ≤ 300) : ∀ (n : Nat) (rest : List Int) (out : List Tok), rest.length ≤ n → AllFair out → Bytes rest → AllFair (diffGo zs B out rest) ∧ (diffGo zs B out rest).length ≤ out.length + rest.length
  | _, [], out, _, h, _ => by rw [diffGo_nil]; exact ⟨h, by simp⟩
  | 0, x :: r, out, hn, _, _ => by simp at hn
  | n + 1, x :: r, out, hn, h, hb => by
    cases hf : findBlk zs B ((x :: r).take B) with
    | none =>
      rw [diffGo_miss hf]
      obtain ⟨h1, h2⟩ := fair_diffGo hB hm n r (pushByte out x) (by simpa using hn) (fair_pushByte h x (hb x (by simp))) (fun y hy => hb y (by simp [hy]))
      have := length_pushByte out x
      exact ⟨h1, by simp only [List.length_cons]; omega⟩
    | some k =>
      rw [diffGo_hit hB hf]
      have hk := (findBlk_some.1 hf).1
      have hd := Nat.div_le_self zs.length B
      obtain ⟨h1, h2⟩ := fair_diffGo hB hm n ((x :: r).drop B) (pushBlock out k) (by rw [List.length_drop]; simp only [List.length_cons] at hn ⊢; omega) (fair_pushBlock h k (by omega)) (fun y hy => hb y (List.mem_of_mem_drop hy))
      have := length_pushBlock out k
      refine ⟨h1, ?_⟩
      rw [List.length_drop] at h2
      simp only [List.length_cons] at *
      omega
theorem fair_diffOf {zs ds : List Int} {B : Nat} (hB : 0 < B) (hm : zs.length ≤ 300) (hd : Bytes ds) : AllFair (diffOf zs ds B) ∧ (diffOf zs ds B).length ≤ ds.length := by
  have := fair_diffGo hB hm ds.length ds [] (Nat.le_refl _) (fun t ht => by simp at ht) hd
  simpa [diffOf] using this
end Go.Proofs.YtbhccdedcoajmabDoor

import Derived.Test.YtbhccdedcoajmaaDoorConv
import Derived.Test.YtbhccdedcoajmaaDoorBlocks
import Derived.Test.YtbhccdedcoajmaaDoorMade
namespace Go.Proofs.YtbhccdedcoajmaaDoor
open Go.RowKit

theorem row_open {w : World} {base : Nat} {e : TypeId} {v : Value} {n : Nat} {xs : List Value} (h : w.ownsRow base e 1 v n xs) : ∃ va cap, v = .slice va n cap ∧ n ≤ cap ∧ ∀ k, k < n → ∃ g, va = some ⟨g, 0, none⟩ ∧ w.cell? ⟨g, k, none⟩ = xs[k]? := by
  have hx := h.1
  rcases h.2 with ⟨hv, hn⟩ | ⟨g, cap, cur, hv, hb, hg, h1, h2, h3, h4⟩
  · exact ⟨none, 0, by rw [hv, hn], by omega, fun k hk => by omega⟩
  · refine ⟨_, cap, hv, h1, fun k hk => ⟨g, rfl, ?_⟩⟩
    rw [← h4]
    simp only [World.cell?, hg]
    rw [List.getElem?_take_of_lt (by omega)]
    simp

def placeV (r : Option Nat) : Value := .int .i64 (match r with | some k => (k : Int) | none => -1)

set_option maxRecDepth 10000 in
set_option maxHeartbeats 400000 in
theorem place_ok (base B : Nat) (v : Value) (zs : List Int) (ts : List ByteArray) (s : ByteArray) (w : World) (hB1 : 1 ≤ B) (hm : zs.length ≤ 300) (hs : s.size = B)
    (ho : w.ownsRow base 9 1 v (chunks zs.length B) (ts.map Value.string)) (ht : ts.map nums = (List.range (chunks zs.length B)).map (chunk zs B)) :
    Calls Tryd.prog 37 #[v, .string s] w fun e w' => e = .returned (placeV (findBlk zs B (nums s))) ∧ w' = w := by
  obtain ⟨va, cap, rfl, hcap, hcell⟩ := row_open ho
  have hM := chunks_le (n := zs.length) hB1
  have HCELL : Hid (∀ k, k < chunks zs.length B → ∃ g t, va = some ⟨g, 0, none⟩ ∧ w.cell? ⟨g, k, none⟩ = some (.string t) ∧ nums t = chunk zs B k) := by
    intro k hk
    obtain ⟨g, hv, hc⟩ := hcell k hk
    have hlt : k < ts.length := by
      have := congrArg List.length ht
      simp at this; omega
    refine ⟨g, ts[k], hv, ?_, ?_⟩
    · rw [hc]; simp [hlt]
    · have := congrArg (fun l => l[k]?) ht
      simpa [hlt, hk] using this
  have HHIT : Hid (∀ k, k < chunks zs.length B → chunk zs B k = nums s → (∀ j, j < k → chunk zs B j ≠ nums s) → findBlk zs B (nums s) = some k) := by
    intro k hk e h
    refine findBlk_some.2 ⟨?_, e, h⟩
    have hl := chunk_length zs B k
    rw [e, nums_length, hs] at hl
    have : (k + 1) * B ≤ zs.length := by rw [Nat.add_mul]; omega
    exact (Nat.le_div_iff_mul_le hB1).2 this
  have HNO : Hid ((∀ j, j < chunks zs.length B → chunk zs B j ≠ nums s) → findBlk zs B (nums s) = none) := by
    intro h
    exact findBlk_none.2 fun j hj => h j (Nat.lt_of_lt_of_le hj (whole_le hB1))
  clear ho ht hcell
  generalize chunks zs.length B = M at *
  go_enter Tryd.func37, Tryd.ntmps37
  go_wp2_with fail
  go_loop [5] (fun i => ∃ k : Nat, k ≤ M ∧ i = .int .i64 k ∧ Hid (∀ j, j < k → chunk zs B j ≠ nums s)) (fun i => M - (intOf i).toNat)
  case atStart => exact ⟨0, Nat.zero_le _, rfl, fun j hj => by omega⟩
  case round =>
    obtain ⟨k, hk, rfl, HA⟩ := hrel
    by_cases hlt : k < M
    · obtain ⟨g, t, rfl, hc, hn⟩ := HCELL.out k hlt
      have hte := text_eq t s
      rw [hn] at hte
      by_cases hh : chunk zs B k = nums s
      · have HH := hide hh
        rw [decide_eq_true hh] at hte
        clear hh hn
        go_wp2_with fail
        go_ret
        refine ⟨?_, rfl⟩
        rw [HHIT.out k hlt HH.out HA.out]
        rfl
      · have HH := hide hh
        rw [decide_eq_false hh] at hte
        clear hh hn
        go_wp2_with fail
        go_round
        case rel =>
          refine ⟨k + 1, by omega, by go_num, fun j hj => ?_⟩
          rcases Nat.lt_or_ge j k with h | h
          · exact HA.out j h
          · obtain rfl : j = k := by omega
            exact HH.out
        case measure => simp [intOf]; omega
    · go_wp2_with fail
      go_ret
      refine ⟨?_, rfl⟩
      rw [HNO.out (fun j hj => HA.out j (by omega))]
      rfl
end Go.Proofs.YtbhccdedcoajmaaDoor

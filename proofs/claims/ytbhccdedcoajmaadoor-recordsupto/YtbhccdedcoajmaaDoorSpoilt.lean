import Derived.Test.YtbhccdedcoajmaaDoorTokRow
import Derived.Deep.QuietTactic
import Derived.BigQuiet
namespace Go.Proofs.YtbhccdedcoajmaaDoor
open Go.RowKit

set_option maxRecDepth 10000 in
set_option maxHeartbeats 400000 in
theorem spoilt_nil (w : World) : Calls Tryd.prog 25 #[.slice none 0 0] w fun e w' => e = .returned (.tuple #[]) ∧ w' = w := by
  go_enter Tryd.func25, Tryd.ntmps25
  go_wp2_with fail
  go_loop [3] (fun v => v = .int .i64 0) (fun _ => 0)
  case atStart => rfl
  case round =>
    subst hrel
    go_wp2_with fail
    go_end0
    exact ⟨rfl, rfl⟩

set_option maxRecDepth 10000 in
set_option maxHeartbeats 400000 in
theorem spoilt_some (base g n c : Nat) (cur : Array Value) (w : World) (hg : w.heap[g]? = some (.cells cur 5 (0, 0))) (hb : base ≤ g) (hs : cur.size = c) (hc : c ≤ 9223372036854775807) :
    Calls Tryd.prog 25 #[.slice (some ⟨g, 0, none⟩) n c] w fun e w' => e = .returned (.tuple #[]) ∧ Below base w w' := by
  have HG := hide hg
  have HS := hide hs
  clear hg hs
  go_enter Tryd.func25, Tryd.ntmps25
  go_wp2_with fail
  go_loopw [3] (fun v wr => ∃ k : Nat, k ≤ c ∧ v = .int .i64 k ∧ Hid (Below base w wr) ∧ Hid (∃ cs : Array Value, wr.heap[g]? = some (.cells cs 5 (0, 0)) ∧ cs.size = c)) (fun v _ => c - (intOf v).toNat)
  case atStart => exact ⟨0, Nat.zero_le _, rfl, Below.refl _ _, ⟨cur, HG.out, HS.out⟩⟩
  case round =>
    obtain ⟨k, hk, rfl, HB, HCS⟩ := hrel
    by_cases hkc : k < c
    · obtain ⟨cs, hg, hsz⟩ := HCS.out
      obtain ⟨x0, hcell⟩ : ∃ x0, wr.cell? ⟨g, k, none⟩ = some x0 := ⟨_, cell_row hg (Array.getElem?_eq_getElem (show k < cs.size by omega))⟩
      have hfz : wr.frozen? ⟨g, k, none⟩ = false := frozen_of_row _ _ _ _ _ hg
      have HGG := hide hg
      have HSZ := hide hsz
      clear hg hsz HCS
      go_wp2_with fail
      go_roundw
      case rel => exact ⟨k + 1, by omega, by go_num, HB.out.setCell (p := ⟨g, k, none⟩) hb _, ⟨_, heap_setCell_same _ _ _ _ _ _ HGG.out, by simpa using HSZ.out⟩⟩
      case measure => simp [intOf]; omega
    · go_wp2_with fail
      go_end0
      exact ⟨rfl, HB.out⟩

theorem spoilt_ok (base : Nat) (v : Value) (zs : List Int) (w : World) (ho : w.ownsRow base 5 1 v zs.length (u8s zs)) :
    Calls Tryd.prog 25 #[v] w fun e w' => e = .returned (.tuple #[]) ∧ Below base w w' := by
  rcases ho.2 with ⟨rfl, _⟩ | ⟨g, c, cur, rfl, hb, hg, _, h2, h3, _⟩
  · exact (spoilt_nil w).mono (by rintro e w' ⟨rfl, rfl⟩; exact ⟨rfl, Below.refl _ _⟩)
  · exact spoilt_some base g zs.length c cur w hg hb (by rw [h3, Nat.mul_one]) (by simpa [maxLen] using h2)
end Go.Proofs.YtbhccdedcoajmaaDoor

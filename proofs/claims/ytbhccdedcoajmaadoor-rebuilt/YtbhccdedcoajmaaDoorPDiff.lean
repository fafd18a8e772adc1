import Derived.Test.YtbhccdedcoajmaaDoorDiff
import Derived.Test.YtbhccdedcoajmaaDoorTold
import Derived.WalkSpells
namespace Go.Proofs.YtbhccdedcoajmaaDoor
open Go.RowKit

set_option maxHeartbeats 400000 in
theorem mDiff_any (v0 v1 : Option Addr) (n cap n2 cap2 : Nat) (B : Int) (w : World) (Q : Value → Value → World → Prop) (hc : Calls Tryd.prog 52 #[.slice v0 n cap, .slice v1 n2 cap2, .int .i64 B] w fun e w' => ∃ r e0, e = .returned (.tuple #[r, e0]) ∧ Q r e0 w') :
    Calls Tryd.prog 36 #[.slice v0 n cap, .slice v1 n2 cap2, .int .i64 B] w fun e w' => ∃ r e0, e = .returned (.tuple #[r, e0]) ∧ Q r e0 w' := by
  have HC := hide hc
  clear hc
  go_enter Tryd.func36, Tryd.ntmps36
  go_wp2_with fail
  refine HC.out.mono ?_
  rintro e w1 ⟨r, e0, rfl, hr⟩
  have HR := hide hr
  clear hr
  go_wp2_with fail
  go_ret2
  exact ⟨_, _, rfl, HR.out⟩

set_option maxHeartbeats 400000 in
theorem pDiff_bad (v0 v1 : Option Addr) (n cap n2 cap2 : Nat) (B k : Int) (w : World) (he : ErrT w) (hc : Calls Tryd.prog 69 #[.slice v0 n cap, .slice v1 n2 cap2, .int .i64 B] w fun e w' => e = .returned (.iface 23 (.int .i64 k)) ∧ w' = w) :
    Calls Tryd.prog 18 #[.slice v0 n cap, .slice v1 n2 cap2, .int .i64 B] w fun e w' => e = .returned (.tuple #[.slice none 0 0, .int .i64 k]) ∧ Below w.heap.size w w' := by
  have HC := hide (mDiff_any v0 v1 n cap n2 cap2 B w (fun r e0 w' => r = .slice none 0 0 ∧ e0 = .iface 23 (.int .i64 k) ∧ w' = w) ((diff_bad v0 v1 n cap n2 cap2 B k w hc).mono (by rintro e w' ⟨rfl, rfl⟩; exact ⟨_, _, rfl, rfl, rfl, rfl⟩)))
  have HE := hide he
  clear hc he
  go_enter Tryd.func18, Tryd.ntmps18
  go_wp2_with fail
  refine HC.out.mono ?_
  rintro e w1 ⟨r, e0, rfl, rfl, rfl, hw1⟩
  obtain rfl := hw1.symm
  go_wp2_with fail
  refine (told_kind _ _ HE.out).mono ?_
  rintro e w2 ⟨rfl, hb⟩
  have HB := hide hb
  clear hb
  go_wp2_with fail
  go_ret2
  exact ⟨rfl, HB.out⟩

set_option maxHeartbeats 400000 in
theorem pDiff_ok (b off cap B : Nat) (zs : List Int) (b2 off2 cap2 : Nat) (ds : List Int) (w : World) (hB1 : 1 ≤ B) (hB2 : B ≤ 64) (hm : zs.length ≤ 300) (hcap : zs.length ≤ cap) (hz : Bytes zs) (hm2 : ds.length ≤ 300) (hcap2 : ds.length ≤ cap2) (hz2 : Bytes ds) (hb2 : b2 < w.heap.size)
    (hc : ∀ k (h : k < zs.length), w.cell? ⟨b, off + k, none⟩ = some (.int .u8 zs[k])) (hd : ∀ k (h : k < ds.length), w.cell? ⟨b2, off2 + k, none⟩ = some (.int .u8 ds[k])) :
    Calls Tryd.prog 18 #[.slice (some ⟨b, off, none⟩) zs.length cap, .slice (some ⟨b2, off2, none⟩) ds.length cap2, .int .i64 B] w fun e w' => ∃ v ps, e = .returned (.tuple #[v, .int .i64 0]) ∧ TokRow w' w.heap.size v ps ∧ ps.map Prod.fst = diffOf zs ds B ∧ Below w.heap.size w w' := by
  have HC := hide (mDiff_any (some ⟨b, off, none⟩) (some ⟨b2, off2, none⟩) zs.length cap ds.length cap2 B w (fun r e0 w' => e0 = .nilIface ∧ ∃ ps, TokRow w' w.heap.size r ps ∧ ps.map Prod.fst = diffOf zs ds B ∧ Below w.heap.size w w') ((diff_ok b off cap B zs b2 off2 cap2 ds w hB1 hB2 hm hcap hz hm2 hcap2 hz2 hb2 hc hd).mono (by rintro e w' ⟨v, ps, rfl, h⟩; exact ⟨_, _, rfl, rfl, ps, h⟩)))
  clear hc hd hz hz2
  generalize zs.length = n at *
  generalize ds.length = n2 at *
  go_enter Tryd.func18, Tryd.ntmps18
  go_wp2_with fail
  refine HC.out.mono ?_
  rintro e w1 ⟨r, e0, rfl, rfl, ps, hT, hE, hb⟩
  have HT := hide hT
  have HE := hide hE
  have HB := hide hb
  clear hT hE hb
  go_wp2_with fail
  refine (told_nil _).mono ?_
  rintro e w2 ⟨rfl, hb⟩
  have HB2 := hide hb
  clear hb
  go_wp2_with fail
  go_ret2
  exact ⟨_, ps, rfl, HT.out.below HB2.out, HE.out, below_all HB.out HB2.out⟩
end Go.Proofs.YtbhccdedcoajmaaDoor

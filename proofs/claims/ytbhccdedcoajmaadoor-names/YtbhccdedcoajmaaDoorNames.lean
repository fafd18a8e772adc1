import Derived.Test.YtbhccdedcoajmaaDoorTold
import Derived.WalkLawsBesides
namespace Go.Proofs.YtbhccdedcoajmaaDoor
open Go.RowKit Go.Extern.Stop Go.Stop Go.Extern

set_option maxHeartbeats 1000000 in
theorem pTold0 (w : World) :
    Calls Tryd.prog 33 #[.int .i64 0] w fun e w' => e = .returned (.tuple #[.int .i64 0, .string ⟨#[]⟩]) ∧ Below w.heap.size w w' := by
  go_enter Tryd.func33, Tryd.ntmps33
  go_wp2_with fail
  refine (told_nil _).mono ?_
  rintro e w1 ⟨rfl, hb⟩
  have HB := hide hb
  clear hb
  go_wp2_with fail
  go_ret2
  exact ⟨rfl, HB.out⟩

set_option maxHeartbeats 1000000 in
theorem pTold1 (w : World) (he : ErrT w) :
    Calls Tryd.prog 33 #[.int .i64 1] w fun e w' => e = .returned (.tuple #[.int .i64 7, .string ⟨#[]⟩]) ∧ Below w.heap.size w w' := by
  have HE := hide he
  clear he
  go_enter Tryd.func33, Tryd.ntmps33
  go_wp2_with fail
  refine (told_kind 7 _ HE.out).mono ?_
  rintro e w1 ⟨rfl, hb⟩
  have HB := hide hb
  clear hb
  go_wp2_with fail
  go_ret2
  exact ⟨rfl, HB.out⟩

set_option maxHeartbeats 1000000 in
theorem pTold2 (w : World) (he : ErrT w) :
    Calls Tryd.prog 33 #[.int .i64 2] w fun e w' => e = .returned (.tuple #[.int .i64 9, .string ⟨#[97]⟩]) ∧ Below w.heap.size w w' := by
  have HE := hide he
  clear he
  have hb1 : Below w.heap.size w (w.alloc (.cells #[.string ⟨#[97]⟩, .int .i64 9] 112)) := (Below.refl _ _).alloc (Nat.le_refl _) _
  have HT := hide (told_file w.heap.size ⟨#[97]⟩ 9 (w.alloc (.cells #[.string ⟨#[97]⟩, .int .i64 9] 112)) (HE.out.keep hb1) (by simp) (by simp))
  have HB1 := hide hb1
  clear hb1
  go_enter Tryd.func33, Tryd.ntmps33
  go_wp2_with fail
  refine HT.out.mono ?_
  rintro e w1 ⟨rfl, hb⟩
  have HB := hide hb
  clear hb
  go_wp2_with fail
  go_ret2
  exact ⟨rfl, HB1.out.trans (HB.out.mono (by simp))⟩

set_option maxHeartbeats 1000000 in
theorem lTold (n k : Int) (s : ByteArray) (w : World) (hc : Calls Tryd.prog 33 #[.int .i64 n] w fun e w' => e = .returned (.tuple #[.int .i64 k, .string s]) ∧ Below w.heap.size w w') :
    Calls Tryd.prog 10 #[.int .i64 n, .int .i64 k, .string s] w fun e w' => e = .returned (.bool true) ∧ Below w.heap.size w w' := by
  have HC := hide hc
  clear hc
  go_enter Tryd.func10, Tryd.ntmps10
  go_wp2_with fail
  refine HC.out.mono ?_
  rintro e w1 ⟨rfl, hb⟩
  have HB := hide hb
  clear hb
  go_wp2_with fail
  go_ret
  exact ⟨rfl, HB.out⟩

set_option maxHeartbeats 1000000 in
theorem walk_names (w : World) (he : ErrT w) :
    Calls Tryd.prog 3 #[] w fun e w' => e = .returned (.bool true) ∧ Below w.heap.size w w' := by
  have HE := hide he
  clear he
  go_enter Tryd.func3, Tryd.ntmps3
  go_wp2_with fail
  refine (lTold 0 0 ⟨#[]⟩ _ (pTold0 _)).mono ?_
  rintro e w1 ⟨rfl, hb⟩
  have HB1 := hide hb
  clear hb
  go_wp2_with fail
  refine (lTold 1 7 ⟨#[]⟩ _ (pTold1 _ (HE.out.keep HB1.out))).mono ?_
  rintro e w2 ⟨rfl, hb⟩
  have HB2 : Hid (Below w.heap.size w w2) := HB1.out.trans (hb.mono HB1.out.size)
  clear hb
  go_wp2_with fail
  refine (lTold 2 9 ⟨#[97]⟩ _ (pTold2 _ (HE.out.keep HB2.out))).mono ?_
  rintro e w3 ⟨rfl, hb⟩
  have HB3 : Hid (Below w.heap.size w w3) := HB2.out.trans (hb.mono HB2.out.size)
  clear hb
  go_wp2_with fail
  go_ret
  exact ⟨rfl, HB3.out⟩
end Go.Proofs.YtbhccdedcoajmaaDoor

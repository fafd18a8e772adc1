import Derived.Test.YtbhccdedcoajmabDoorApply
import Derived.Test.YtbhccdedcoajmabDoorTold
import Derived.WalkSpells
namespace Go.Proofs.YtbhccdedcoajmabDoor
open Go.RowKit

set_option maxHeartbeats 400000 in
theorem mApply_any (v0 : Option Addr) (n cap : Nat) (tv : Value) (B : Int) (w : World) (Q : Value → Value → World → Prop) (hc : Calls Tryd.prog 19 #[.slice v0 n cap, tv, .int .i64 B] w fun e w' => ∃ r e0, e = .returned (.tuple #[r, e0]) ∧ Q r e0 w') :
    Calls Tryd.prog 15 #[.slice v0 n cap, tv, .int .i64 B] w fun e w' => ∃ r e0, e = .returned (.tuple #[r, e0]) ∧ Q r e0 w' := by
  have HC := hide hc
  clear hc
  go_enter Tryd.func15, Tryd.ntmps15
  go_wp2_with fail
  refine HC.out.mono ?_
  rintro e w1 ⟨r, e0, rfl, hr⟩
  have HR := hide hr
  clear hr
  go_wp2_with fail
  go_ret2
  exact ⟨_, _, rfl, HR.out⟩

set_option maxHeartbeats 400000 in
theorem pApply_err (v0 : Option Addr) (n cap : Nat) (tv : Value) (B k : Int) (w : World) (he : ErrT w) (hc : Calls Tryd.prog 19 #[.slice v0 n cap, tv, .int .i64 B] w fun e w' => ∃ r e0, e = .returned (.tuple #[r, e0]) ∧ r = .slice none 0 0 ∧ e0 = .iface 27 (.int .i64 k) ∧ Below w.heap.size w w') :
    Calls Tryd.prog 9 #[.slice v0 n cap, tv, .int .i64 B] w fun e w' => e = .returned (.tuple #[.slice none 0 0, .int .i64 k]) ∧ Below w.heap.size w w' := by
  have HC := hide (mApply_any v0 n cap tv B w (fun r e0 w' => r = .slice none 0 0 ∧ e0 = .iface 27 (.int .i64 k) ∧ Below w.heap.size w w') hc)
  have HE := hide he
  clear hc he
  go_enter Tryd.func9, Tryd.ntmps9
  go_wp2_with fail
  refine HC.out.mono ?_
  rintro e w1 ⟨r, e0, rfl, rfl, rfl, hb1⟩
  have HB1 := hide hb1
  clear hb1
  go_wp2_with fail
  refine (told_kind _ _ (HE.out.keep HB1.out)).mono ?_
  rintro e w2 ⟨rfl, hb⟩
  have HB := hide hb
  clear hb
  go_wp2_with fail
  go_ret2
  exact ⟨rfl, below_all HB1.out HB.out⟩

set_option maxHeartbeats 400000 in
theorem pApply_made (v0 : Option Addr) (n cap : Nat) (tv : Value) (B : Int) (w : World) (Q : Value → World → Prop) (hQ : ∀ r w1 w2, Q r w1 → Below w1.heap.size w1 w2 → Q r w2) (hc : Calls Tryd.prog 19 #[.slice v0 n cap, tv, .int .i64 B] w fun e w' => ∃ r e0, e = .returned (.tuple #[r, e0]) ∧ e0 = .nilIface ∧ Q r w') :
    Calls Tryd.prog 9 #[.slice v0 n cap, tv, .int .i64 B] w fun e w' => ∃ r, e = .returned (.tuple #[r, .int .i64 0]) ∧ Q r w' := by
  have HC := hide (mApply_any v0 n cap tv B w (fun r e0 w' => e0 = .nilIface ∧ Q r w') hc)
  have HQ := hide hQ
  clear hc hQ
  go_enter Tryd.func9, Tryd.ntmps9
  go_wp2_with fail
  refine HC.out.mono ?_
  rintro e w1 ⟨r, e0, rfl, rfl, hr⟩
  have HR := hide hr
  clear hr
  go_wp2_with fail
  refine (told_nil _).mono ?_
  rintro e w2 ⟨rfl, hb⟩
  have HB := hide hb
  clear hb
  go_wp2_with fail
  go_ret2
  exact ⟨_, rfl, HQ.out _ _ _ HR.out HB.out⟩

theorem pApply_bad (v0 : Option Addr) (n cap : Nat) (tv : Value) (B k : Int) (w : World) (he : ErrT w) (hc : Calls Tryd.prog 31 #[.slice v0 n cap, .int .i64 B] w fun e w' => e = .returned (.iface 27 (.int .i64 k)) ∧ w' = w) :
    Calls Tryd.prog 9 #[.slice v0 n cap, tv, .int .i64 B] w fun e w' => e = .returned (.tuple #[.slice none 0 0, .int .i64 k]) ∧ Below w.heap.size w w' :=
  pApply_err v0 n cap tv B k w he ((apply_bad v0 n cap tv B k w hc).mono (by rintro e w' ⟨rfl, rfl⟩; exact ⟨_, _, rfl, rfl, rfl, Below.refl _ _⟩))

/-- what plain.Apply tells -/
theorem pApply_ok (b off cap B : Nat) (zs : List Int) (base : Nat) (tv : Value) (ps : List (Tok × Value)) (w : World) (hB1 : 1 ≤ B) (hB2 : B ≤ 64) (hm : zs.length ≤ 300) (hcap : zs.length ≤ cap)
    (hc : ∀ k (h : k < zs.length), w.cell? ⟨b, off + k, none⟩ = some (.int .u8 zs[k])) (hT : TokRow w base tv ps) (hl : ps.length ≤ 70000) (hh : ∀ p ∈ ps, Held p.1) {made : List Int} (hmade : applyGo zs B [] (ps.map Prod.fst) = .ok made) :
    Calls Tryd.prog 9 #[.slice (some ⟨b, off, none⟩) zs.length cap, tv, .int .i64 B] w fun e w' => ∃ v, e = .returned (.tuple #[v, .int .i64 0]) ∧ w'.ownsRow w.heap.size 5 1 v made.length (u8s made) ∧ Below w.heap.size w w' := by
  have h := apply_ok b off cap B zs base tv ps w hB1 hB2 hm hcap hc hT hl hh
  rw [hmade] at h
  exact pApply_made _ _ _ _ _ w (fun r w' => w'.ownsRow w.heap.size 5 1 r made.length (u8s made) ∧ Below w.heap.size w w') (fun r w1 w2 h hb => ⟨ownsRow_below h.1 hb, below_all h.2 hb⟩)
    (h.mono (by rintro e w' ⟨v, e0, rfl, ht, hb⟩; exact ⟨v, e0, rfl, ht.2, ht.1, hb⟩))
theorem pApply_opt (vo : Option Addr) (b off cap B : Nat) (zs : List Int) (hvo : 0 < zs.length → vo = some ⟨b, off, none⟩) (base : Nat) (tv : Value) (ps : List (Tok × Value)) (w : World) (hB1 : 1 ≤ B) (hB2 : B ≤ 64) (hm : zs.length ≤ 300) (hcap : zs.length ≤ cap)
    (hc : ∀ k (h : k < zs.length), w.cell? ⟨b, off + k, none⟩ = some (.int .u8 zs[k])) (hT : TokRow w base tv ps) (hl : ps.length ≤ 70000) (hh : ∀ p ∈ ps, Held p.1) {made : List Int} (hmade : applyGo zs B [] (ps.map Prod.fst) = .ok made) :
    Calls Tryd.prog 9 #[.slice vo zs.length cap, tv, .int .i64 B] w fun e w' => ∃ v, e = .returned (.tuple #[v, .int .i64 0]) ∧ w'.ownsRow w.heap.size 5 1 v made.length (u8s made) ∧ Below w.heap.size w w' := by
  have h := apply_opt vo b off cap B zs hvo base tv ps w hB1 hB2 hm hcap hc hT hl hh
  rw [hmade] at h
  exact pApply_made _ _ _ _ _ w (fun r w' => w'.ownsRow w.heap.size 5 1 r made.length (u8s made) ∧ Below w.heap.size w w') (fun r w1 w2 h hb => ⟨ownsRow_below h.1 hb, below_all h.2 hb⟩)
    (h.mono (by rintro e w' ⟨v, e0, rfl, ht, hb⟩; exact ⟨v, e0, rfl, ht.2, ht.1, hb⟩))
theorem pApply_no (b off cap B : Nat) (zs : List Int) (base : Nat) (tv : Value) (ps : List (Tok × Value)) (w : World) (he : ErrT w) (hB1 : 1 ≤ B) (hB2 : B ≤ 64) (hm : zs.length ≤ 300) (hcap : zs.length ≤ cap)
    (hc : ∀ k (h : k < zs.length), w.cell? ⟨b, off + k, none⟩ = some (.int .u8 zs[k])) (hT : TokRow w base tv ps) (hl : ps.length ≤ 70000) (hh : ∀ p ∈ ps, Held p.1) {k : Int} (hmade : applyGo zs B [] (ps.map Prod.fst) = .error k) :
    Calls Tryd.prog 9 #[.slice (some ⟨b, off, none⟩) zs.length cap, tv, .int .i64 B] w fun e w' => e = .returned (.tuple #[.slice none 0 0, .int .i64 k]) ∧ Below w.heap.size w w' := by
  have h := apply_ok b off cap B zs base tv ps w hB1 hB2 hm hcap hc hT hl hh
  rw [hmade] at h
  exact pApply_err _ _ _ _ _ k w he (h.mono (by rintro e w' ⟨v, e0, rfl, ht, hb⟩; exact ⟨v, e0, rfl, ht.1, ht.2, hb⟩))
end Go.Proofs.YtbhccdedcoajmabDoor

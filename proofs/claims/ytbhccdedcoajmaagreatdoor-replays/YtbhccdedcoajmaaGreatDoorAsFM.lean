import Derived.Test.YtbhccdedcoajmaaGreatDoorMathM
import Derived.Deep.QuietTactic
import Derived.BigQuiet
import Derived.Test.YtbhccdedcoajmaaGreatDoorRows
import Derived.ProofKit
import Derived.OpenShut
import Derived.ShutString
import Derived.ChangeSame
import Derived.ChangeVars
import Derived.JoinedOf
import Derived.RowKit
import Derived.RowKitTokens
import Derived.LaidLaws
import Derived.LaidHandle
import Derived.Stop.Joined
import Derived.OwnWalk
namespace Go.Proofs.YtbhccdedcoajmaaGreatDoor
open Go.RowKit Go.Extern.Stop Go.Stop Go.Extern

set_option maxHeartbeats 4000000 in
theorem as_hitF (e : Addr) (t : Addr) (old : Value) (w : World) (hg : w.cell? ⟨0, 0, none⟩ = some (.iface 210 (.agg #[.pointer (some ⟨1, 86, none⟩)]))) (ht0 : w.cell? t = some old) (hf0 : w.frozen? t = false) :
    Calls Tryz.prog 49 #[.iface 123 (.pointer (some e)), .iface 125 (.pointer (some t))] w fun ev w' => ev = .returned (.bool true) ∧ w' = ((((w.alloc (.cells #[.pointer (some t)] 125)).alloc (.cells #[.pointer (some ⟨1, 125, none⟩), .pointer (some ⟨w.heap.size, 0, none⟩), .int .u64 150] 171)).alloc (.cells #[.pointer (some ⟨1, 125, none⟩), .pointer (some ⟨w.heap.size, 0, none⟩), .int .u64 150] 171)).alloc (.cells #[.pointer (some e)] 123)).setCell t (.pointer (some e)) := by
  have h6 := @run_callFunc_extern Tryz.prog 75 _ (fun args => ReflectliteValue.unpack (args.getD 0 (.tuple #[]))) Tryz.func75 (by kernel_rfl) (by kernel_rfl) (by kernel_rfl) (by kernel_rfl)
  have h7 := @run_callFunc_extern Tryz.prog 76 _ (ReflectliteValue.methodAny (ReflectliteValue.valueError "reflectlite.Value.Type" 0) (fun t _ _ _ => ReflectliteType.toType t)) Tryz.func76 (by kernel_rfl) (by kernel_rfl) (by kernel_rfl) (by kernel_rfl)
  have h8 := @run_callFunc_extern Tryz.prog 77 _ (ReflectliteValue.method (ReflectliteValue.valueError "reflectlite.Value.IsNil" 0) ReflectliteValue.isNil) Tryz.func77 (by kernel_rfl) (by kernel_rfl) (by kernel_rfl) (by kernel_rfl)
  have h27 := @run_callFunc_extern Tryz.prog 190 _ (ReflectliteType.abiMethod fun t => do pure (.int .u8 (← Rtype.kind t))) Tryz.func190 (by kernel_rfl) (by kernel_rfl) (by kernel_rfl) (by kernel_rfl)
  have h37 := @run_callFunc_extern Tryz.prog 202 _ (ReflectliteType.method ReflectliteType.elem) Tryz.func202 (by kernel_rfl) (by kernel_rfl) (by kernel_rfl) (by kernel_rfl)
  have h38 := @run_callFunc_extern Tryz.prog 203 _ (ReflectliteType.relation "Implements" ReflectliteType.implements_) Tryz.func203 (by kernel_rfl) (by kernel_rfl) (by kernel_rfl) (by kernel_rfl)
  have h10 := @run_callFunc_extern Tryz.prog 111 _ ReflectliteType.typeOf Tryz.func111 (by kernel_rfl) (by kernel_rfl) (by kernel_rfl) (by kernel_rfl)
  have h35 := @run_callFunc_extern Tryz.prog 200 _ (ReflectliteType.relation "AssignableTo" ReflectliteType.assignableTo) Tryz.func200 (by kernel_rfl) (by kernel_rfl) (by kernel_rfl) (by kernel_rfl)
  have h11 := @run_callFunc_extern Tryz.prog 112 _ (ReflectliteValue.method (ReflectliteValue.valueError "reflectlite.Value.Elem" 0) ReflectliteValue.elem) Tryz.func112 (by kernel_rfl) (by kernel_rfl) (by kernel_rfl) (by kernel_rfl)
  have h12 := @run_callFunc_extern Tryz.prog 113 _ ReflectliteValue.set Tryz.func113 (by kernel_rfl) (by kernel_rfl) (by kernel_rfl) (by kernel_rfl)
  have tO := Tryz.typeOf123
  have mA := Tryz.methodAssignableTo
  have a25 := Tryz.assignable123
  have v25 := Tryz.valueOf123
  have f6 := Tryz.valueOf125
  have f7 := Tryz.type125
  have mK := Tryz.methodKind
  have mE := Tryz.methodElem
  have mI := Tryz.methodImplements
  have k27 := Tryz.kind125
  have k25 := Tryz.kind123
  have e27 := Tryz.elem125
  have i25 := Tryz.implements123
  have n8 := Tryz.isNil125 ⟨w.heap.size, 0, none⟩ t ((w.alloc (.cells #[.pointer (some t)] 125)).alloc (.cells #[.pointer (some ⟨1, 125, none⟩), .pointer (some ⟨w.heap.size, 0, none⟩), .int .u64 150] 171)) (by simp)
  have hlt : 0 < w.heap.size := by
    rcases Nat.lt_or_ge 0 w.heap.size with h | h
    · exact h
    · simp [World.cell?, Array.getElem?_eq_none h] at hg
  have hg2 : ((w.alloc (.cells #[.pointer (some t)] 125)).alloc (.cells #[.pointer (some ⟨1, 125, none⟩), .pointer (some ⟨w.heap.size, 0, none⟩), .int .u64 150] 171)).cell? ⟨0, 0, none⟩ = some (.iface 210 (.agg #[.pointer (some ⟨1, 86, none⟩)])) := by
    rw [World.cell?_alloc_lt _ _ ⟨0, 0, none⟩ (by first | (simp; done) | (simp; omega)), World.cell?_alloc_lt _ _ ⟨0, 0, none⟩ hlt]; exact hg
  have htl : t.block < w.heap.size := by
    rcases Nat.lt_or_ge t.block w.heap.size with h | h
    · exact h
    · simp [World.cell?, Array.getElem?_eq_none h] at ht0
  have el := Tryz.elemV125 ⟨w.heap.size, 0, none⟩ t (((w.alloc (.cells #[.pointer (some t)] 125)).alloc (.cells #[.pointer (some ⟨1, 125, none⟩), .pointer (some ⟨w.heap.size, 0, none⟩), .int .u64 150] 171)).alloc (.cells #[.pointer (some ⟨1, 125, none⟩), .pointer (some ⟨w.heap.size, 0, none⟩), .int .u64 150] 171)) (by rw [World.cell?_alloc_lt _ _ ⟨w.heap.size, 0, none⟩ (by simp; omega)]; simp)
  have st := Tryz.set123 t ⟨w.heap.size + 1 + 1 + 1, 0, none⟩ e old ((((w.alloc (.cells #[.pointer (some t)] 125)).alloc (.cells #[.pointer (some ⟨1, 125, none⟩), .pointer (some ⟨w.heap.size, 0, none⟩), .int .u64 150] 171)).alloc (.cells #[.pointer (some ⟨1, 125, none⟩), .pointer (some ⟨w.heap.size, 0, none⟩), .int .u64 150] 171)).alloc (.cells #[.pointer (some e)] 123))
    (by rw [World.cell?_alloc_at _ _ _ _ (by simp)]; rfl)
    (by rw [World.cell?_alloc_lt _ _ t (by simp; omega), World.cell?_alloc_lt _ _ t (by simp; omega), World.cell?_alloc_lt _ _ t (by simp; omega), World.cell?_alloc_lt _ _ t htl]; exact ht0)
    (by rw [World.frozen?_alloc_old _ _ t (by simp; omega), World.frozen?_alloc_old _ _ t (by simp; omega), World.frozen?_alloc_old _ _ t (by simp; omega), World.frozen?_alloc_old _ _ t (Nat.ne_of_lt htl)]; exact hf0)
  go_enter Tryz.func49, Tryz.ntmps49
  go_wp2
  refine wp_loop_rounds 1 ?_
  rw [rounds_succ]
  go_wp2
  go_ret
  exact ⟨rfl, rfl⟩

end Go.Proofs.YtbhccdedcoajmaaGreatDoor
namespace Go.Proofs.YtbhccdedcoajmaaGreatDoor
open Go.RowKit Go.Extern.Stop Go.Stop Go.Extern

set_option maxHeartbeats 4000000 in
theorem as_hitK (x : Int) (t : Addr) (old : Value) (w : World) (hg : w.cell? ⟨0, 0, none⟩ = some (.iface 210 (.agg #[.pointer (some ⟨1, 86, none⟩)]))) (ht0 : w.cell? t = some old) (hf0 : w.frozen? t = false) :
    Calls Tryz.prog 49 #[.iface 50 (.int .i64 x), .iface 128 (.pointer (some t))] w fun ev w' => ev = .returned (.bool true) ∧ w' = ((((w.alloc (.cells #[.pointer (some t)] 128)).alloc (.cells #[.pointer (some ⟨1, 128, none⟩), .pointer (some ⟨w.heap.size, 0, none⟩), .int .u64 150] 171)).alloc (.cells #[.pointer (some ⟨1, 128, none⟩), .pointer (some ⟨w.heap.size, 0, none⟩), .int .u64 150] 171)).alloc (.cells #[.int .i64 x] 50)).setCell t (.int .i64 x) := by
  have h6 := @run_callFunc_extern Tryz.prog 75 _ (fun args => ReflectliteValue.unpack (args.getD 0 (.tuple #[]))) Tryz.func75 (by kernel_rfl) (by kernel_rfl) (by kernel_rfl) (by kernel_rfl)
  have h7 := @run_callFunc_extern Tryz.prog 76 _ (ReflectliteValue.methodAny (ReflectliteValue.valueError "reflectlite.Value.Type" 0) (fun t _ _ _ => ReflectliteType.toType t)) Tryz.func76 (by kernel_rfl) (by kernel_rfl) (by kernel_rfl) (by kernel_rfl)
  have h8 := @run_callFunc_extern Tryz.prog 77 _ (ReflectliteValue.method (ReflectliteValue.valueError "reflectlite.Value.IsNil" 0) ReflectliteValue.isNil) Tryz.func77 (by kernel_rfl) (by kernel_rfl) (by kernel_rfl) (by kernel_rfl)
  have h27 := @run_callFunc_extern Tryz.prog 190 _ (ReflectliteType.abiMethod fun t => do pure (.int .u8 (← Rtype.kind t))) Tryz.func190 (by kernel_rfl) (by kernel_rfl) (by kernel_rfl) (by kernel_rfl)
  have h37 := @run_callFunc_extern Tryz.prog 202 _ (ReflectliteType.method ReflectliteType.elem) Tryz.func202 (by kernel_rfl) (by kernel_rfl) (by kernel_rfl) (by kernel_rfl)
  have h38 := @run_callFunc_extern Tryz.prog 203 _ (ReflectliteType.relation "Implements" ReflectliteType.implements_) Tryz.func203 (by kernel_rfl) (by kernel_rfl) (by kernel_rfl) (by kernel_rfl)
  have h10 := @run_callFunc_extern Tryz.prog 111 _ ReflectliteType.typeOf Tryz.func111 (by kernel_rfl) (by kernel_rfl) (by kernel_rfl) (by kernel_rfl)
  have h35 := @run_callFunc_extern Tryz.prog 200 _ (ReflectliteType.relation "AssignableTo" ReflectliteType.assignableTo) Tryz.func200 (by kernel_rfl) (by kernel_rfl) (by kernel_rfl) (by kernel_rfl)
  have h11 := @run_callFunc_extern Tryz.prog 112 _ (ReflectliteValue.method (ReflectliteValue.valueError "reflectlite.Value.Elem" 0) ReflectliteValue.elem) Tryz.func112 (by kernel_rfl) (by kernel_rfl) (by kernel_rfl) (by kernel_rfl)
  have h12 := @run_callFunc_extern Tryz.prog 113 _ ReflectliteValue.set Tryz.func113 (by kernel_rfl) (by kernel_rfl) (by kernel_rfl) (by kernel_rfl)
  have tO := Tryz.typeOf50
  have mA := Tryz.methodAssignableTo
  have a25 := Tryz.assignable50
  have v25 := Tryz.valueOf50
  have f6 := Tryz.valueOf128
  have f7 := Tryz.type128
  have mK := Tryz.methodKind
  have mE := Tryz.methodElem
  have mI := Tryz.methodImplements
  have k27 := Tryz.kind128
  have k25 := Tryz.kind50
  have e27 := Tryz.elem128
  have i25 := Tryz.implements50
  have n8 := Tryz.isNil128 ⟨w.heap.size, 0, none⟩ t ((w.alloc (.cells #[.pointer (some t)] 128)).alloc (.cells #[.pointer (some ⟨1, 128, none⟩), .pointer (some ⟨w.heap.size, 0, none⟩), .int .u64 150] 171)) (by simp)
  have hlt : 0 < w.heap.size := by
    rcases Nat.lt_or_ge 0 w.heap.size with h | h
    · exact h
    · simp [World.cell?, Array.getElem?_eq_none h] at hg
  have hg2 : ((w.alloc (.cells #[.pointer (some t)] 128)).alloc (.cells #[.pointer (some ⟨1, 128, none⟩), .pointer (some ⟨w.heap.size, 0, none⟩), .int .u64 150] 171)).cell? ⟨0, 0, none⟩ = some (.iface 210 (.agg #[.pointer (some ⟨1, 86, none⟩)])) := by
    rw [World.cell?_alloc_lt _ _ ⟨0, 0, none⟩ (by first | (simp; done) | (simp; omega)), World.cell?_alloc_lt _ _ ⟨0, 0, none⟩ hlt]; exact hg
  have htl : t.block < w.heap.size := by
    rcases Nat.lt_or_ge t.block w.heap.size with h | h
    · exact h
    · simp [World.cell?, Array.getElem?_eq_none h] at ht0
  have el := Tryz.elemV128 ⟨w.heap.size, 0, none⟩ t (((w.alloc (.cells #[.pointer (some t)] 128)).alloc (.cells #[.pointer (some ⟨1, 128, none⟩), .pointer (some ⟨w.heap.size, 0, none⟩), .int .u64 150] 171)).alloc (.cells #[.pointer (some ⟨1, 128, none⟩), .pointer (some ⟨w.heap.size, 0, none⟩), .int .u64 150] 171)) (by rw [World.cell?_alloc_lt _ _ ⟨w.heap.size, 0, none⟩ (by simp; omega)]; simp)
  have st := Tryz.set50 t ⟨w.heap.size + 1 + 1 + 1, 0, none⟩ x old ((((w.alloc (.cells #[.pointer (some t)] 128)).alloc (.cells #[.pointer (some ⟨1, 128, none⟩), .pointer (some ⟨w.heap.size, 0, none⟩), .int .u64 150] 171)).alloc (.cells #[.pointer (some ⟨1, 128, none⟩), .pointer (some ⟨w.heap.size, 0, none⟩), .int .u64 150] 171)).alloc (.cells #[.int .i64 x] 50))
    (by rw [World.cell?_alloc_at _ _ _ _ (by simp)]; rfl)
    (by rw [World.cell?_alloc_lt _ _ t (by simp; omega), World.cell?_alloc_lt _ _ t (by simp; omega), World.cell?_alloc_lt _ _ t (by simp; omega), World.cell?_alloc_lt _ _ t htl]; exact ht0)
    (by rw [World.frozen?_alloc_old _ _ t (by simp; omega), World.frozen?_alloc_old _ _ t (by simp; omega), World.frozen?_alloc_old _ _ t (by simp; omega), World.frozen?_alloc_old _ _ t (Nat.ne_of_lt htl)]; exact hf0)
  go_enter Tryz.func49, Tryz.ntmps49
  go_wp2
  refine wp_loop_rounds 1 ?_
  rw [rounds_succ]
  go_wp2
  go_ret
  exact ⟨rfl, rfl⟩
end Go.Proofs.YtbhccdedcoajmaaGreatDoor
namespace Go.Proofs.YtbhccdedcoajmaaGreatDoor
open Go.RowKit Go.Extern.Stop Go.Stop Go.Extern


theorem Tryz.assignableKF (w : World) : (ReflectliteType.relation "AssignableTo" ReflectliteType.assignableTo #[.agg #[.pointer (some ⟨1, 50, none⟩)], .iface 210 (.agg #[.pointer (some ⟨1, 123, none⟩)])]).run Tryz.prog w = .ok (.bool false) w := by kernel_rfl
theorem Tryz.noAs (v : Value) (xT : TypeId) (w : World) : (Instr.typeAssert (.iface 50 v) xT 215 true).run Tryz.prog w = .ok (.tuple #[.nilIface, .bool false]) w := run_typeAssert_lacksB Tryz.underlying215 (by kernel_rfl) (by kernel_rfl) v xT w
theorem Tryz.noUnwrap (v : Value) (xT : TypeId) (w : World) : (Instr.typeAssert (.iface 50 v) xT 218 true).run Tryz.prog w = .ok (.tuple #[.nilIface, .bool false]) w := run_typeAssert_lacksB Tryz.underlying218 (by kernel_rfl) (by kernel_rfl) v xT w
theorem Tryz.noUnwraps (v : Value) (xT : TypeId) (w : World) : (Instr.typeAssert (.iface 50 v) xT 220 true).run Tryz.prog w = .ok (.tuple #[.nilIface, .bool false]) w := run_typeAssert_lacksB Tryz.underlying220 (by kernel_rfl) (by kernel_rfl) v xT w

set_option maxHeartbeats 4000000 in
theorem as_miss (x : Int) (t : Addr) (w : World) (hg : w.cell? ⟨0, 0, none⟩ = some (.iface 210 (.agg #[.pointer (some ⟨1, 86, none⟩)]))) :
    Calls Tryz.prog 49 #[.iface 50 (.int .i64 x), .iface 125 (.pointer (some t))] w fun ev w' => ev = .returned (.bool false) ∧ w' = ((w.alloc (.cells #[.pointer (some t)] 125)).alloc (.cells #[.pointer (some ⟨1, 125, none⟩), .pointer (some ⟨w.heap.size, 0, none⟩), .int .u64 150] 171)).alloc (.cells #[.pointer (some ⟨1, 125, none⟩), .pointer (some ⟨w.heap.size, 0, none⟩), .int .u64 150] 171) := by
  have h6 := @run_callFunc_extern Tryz.prog 75 _ (fun args => ReflectliteValue.unpack (args.getD 0 (.tuple #[]))) Tryz.func75 (by kernel_rfl) (by kernel_rfl) (by kernel_rfl) (by kernel_rfl)
  have h7 := @run_callFunc_extern Tryz.prog 76 _ (ReflectliteValue.methodAny (ReflectliteValue.valueError "reflectlite.Value.Type" 0) (fun t _ _ _ => ReflectliteType.toType t)) Tryz.func76 (by kernel_rfl) (by kernel_rfl) (by kernel_rfl) (by kernel_rfl)
  have h8 := @run_callFunc_extern Tryz.prog 77 _ (ReflectliteValue.method (ReflectliteValue.valueError "reflectlite.Value.IsNil" 0) ReflectliteValue.isNil) Tryz.func77 (by kernel_rfl) (by kernel_rfl) (by kernel_rfl) (by kernel_rfl)
  have h27 := @run_callFunc_extern Tryz.prog 190 _ (ReflectliteType.abiMethod fun t => do pure (.int .u8 (← Rtype.kind t))) Tryz.func190 (by kernel_rfl) (by kernel_rfl) (by kernel_rfl) (by kernel_rfl)
  have h37 := @run_callFunc_extern Tryz.prog 202 _ (ReflectliteType.method ReflectliteType.elem) Tryz.func202 (by kernel_rfl) (by kernel_rfl) (by kernel_rfl) (by kernel_rfl)
  have h38 := @run_callFunc_extern Tryz.prog 203 _ (ReflectliteType.relation "Implements" ReflectliteType.implements_) Tryz.func203 (by kernel_rfl) (by kernel_rfl) (by kernel_rfl) (by kernel_rfl)
  have h10 := @run_callFunc_extern Tryz.prog 111 _ ReflectliteType.typeOf Tryz.func111 (by kernel_rfl) (by kernel_rfl) (by kernel_rfl) (by kernel_rfl)
  have h35 := @run_callFunc_extern Tryz.prog 200 _ (ReflectliteType.relation "AssignableTo" ReflectliteType.assignableTo) Tryz.func200 (by kernel_rfl) (by kernel_rfl) (by kernel_rfl) (by kernel_rfl)
  have tO := Tryz.typeOf50
  have mA := Tryz.methodAssignableTo
  have a25 := Tryz.assignableKF
  have f6 := Tryz.valueOf125
  have f7 := Tryz.type125
  have mK := Tryz.methodKind
  have mE := Tryz.methodElem
  have mI := Tryz.methodImplements
  have k27 := Tryz.kind125
  have k25 := Tryz.kind123
  have e27 := Tryz.elem125
  have i25 := Tryz.implements123
  have n8 := Tryz.isNil125 ⟨w.heap.size, 0, none⟩ t ((w.alloc (.cells #[.pointer (some t)] 125)).alloc (.cells #[.pointer (some ⟨1, 125, none⟩), .pointer (some ⟨w.heap.size, 0, none⟩), .int .u64 150] 171)) (by simp)
  have hlt : 0 < w.heap.size := by
    rcases Nat.lt_or_ge 0 w.heap.size with h | h
    · exact h
    · simp [World.cell?, Array.getElem?_eq_none h] at hg
  have hg2 : ((w.alloc (.cells #[.pointer (some t)] 125)).alloc (.cells #[.pointer (some ⟨1, 125, none⟩), .pointer (some ⟨w.heap.size, 0, none⟩), .int .u64 150] 171)).cell? ⟨0, 0, none⟩ = some (.iface 210 (.agg #[.pointer (some ⟨1, 86, none⟩)])) := by
    rw [World.cell?_alloc_lt _ _ ⟨0, 0, none⟩ (by first | (simp; done) | (simp; omega)), World.cell?_alloc_lt _ _ ⟨0, 0, none⟩ hlt]; exact hg
  have nA := Tryz.noAs
  have nU := Tryz.noUnwrap
  have nV := Tryz.noUnwraps
  go_enter Tryz.func49, Tryz.ntmps49
  go_wp2
  refine wp_loop_rounds 1 ?_
  rw [rounds_succ]
  go_wp2
  go_ret
  exact ⟨rfl, rfl⟩

end Go.Proofs.YtbhccdedcoajmaaGreatDoor
namespace Go.Proofs.YtbhccdedcoajmaaGreatDoor
open Go.RowKit Go.Extern.Stop Go.Stop Go.Extern

/-- the one package-level variable that errors.As reads: the handle of the type error -/
def ErrT (w : World) : Prop := w.cell? ⟨0, 0, none⟩ = some (.iface 210 (.agg #[.pointer (some ⟨1, 86, none⟩)]))
theorem ErrT.lt {w : World} (h : ErrT w) : 0 < w.heap.size := by
  rcases Nat.lt_or_ge 0 w.heap.size with h' | h'
  · exact h'
  · simp [ErrT, World.cell?, Array.getElem?_eq_none h'] at h
theorem ErrT.below {B : Nat} {w w' : World} (h : ErrT w) (hb : Below B w w') (hB : 0 < B) : ErrT w' := by
  unfold ErrT; rw [hb.cell (p := ⟨0, 0, none⟩) hB]; exact h
theorem ErrT.keep {w w' : World} (h : ErrT w) (hb : Below w.heap.size w w') : ErrT w' := h.below hb h.lt

theorem cell_set {w : World} {a : Addr} {old v : Value} (h : w.cell? a = some old) : (w.setCell a v).cell? a = some v := by
  exact World.cell?_setCell_same' w a v (by rw [h]; rfl)

set_option maxHeartbeats 1000000 in
theorem told_nil (w : World) :
    Calls Tryz.prog 33 #[.nilIface] w fun e w' => e = .returned (.tuple #[.int .i64 0, .string ⟨#[]⟩]) ∧ Below w.heap.size w w' := by
  go_enter Tryz.func33, Tryz.ntmps33
  go_wp2_with fail
  refine (as_nil _ _).mono ?_
  rintro e w' ⟨rfl, rfl⟩
  go_wp2_with fail
  refine (as_nil _ _).mono ?_
  rintro e w' ⟨rfl, rfl⟩
  go_wp2_with fail
  go_ret2
  exact ⟨rfl, ((Below.refl _ _).alloc (Nat.le_refl _) _).alloc (by simp) _⟩

set_option maxHeartbeats 1000000 in
theorem told_kind (x : Int) (w : World) (he : ErrT w) :
    Calls Tryz.prog 33 #[.iface 50 (.int .i64 x)] w fun e w' => e = .returned (.tuple #[.int .i64 x, .string ⟨#[]⟩]) ∧ Below w.heap.size w w' := by
  have hb1 : Below w.heap.size w (w.alloc (.cells #[.pointer none] 123)) := (Below.refl _ _).alloc (Nat.le_refl _) _
  have HM := hide (as_miss x ⟨w.heap.size, 0, none⟩ _ (he.keep hb1))
  have HE := hide he
  clear he hb1
  go_enter Tryz.func33, Tryz.ntmps33
  go_wp2_with fail
  refine HM.out.mono ?_
  rintro e w1 ⟨rfl, hw1⟩
  have hz : w.heap.size < w1.heap.size := by rw [hw1]; simp; omega
  have hb : Below w.heap.size w w1 := by
    rw [hw1]
    exact ((((Below.refl _ _).alloc (Nat.le_refl _) _).alloc (by simp) _).alloc (by simp; omega) _).alloc (by simp; omega) _
  have HB := hide hb
  have HZ := hide hz
  clear hw1 hb hz
  have hb2 : Below w1.heap.size w1 (w1.alloc (.cells #[.int .i64 0] 50)) := (Below.refl _ _).alloc (Nat.le_refl _) _
  have HK := hide (as_hitK x ⟨w1.heap.size, 0, none⟩ (.int .i64 0) (w1.alloc (.cells #[.int .i64 0] 50)) ((HE.out.keep HB.out).keep hb2) (by simp) (by simp))
  clear hb2
  go_wp2_with fail
  refine HK.out.mono ?_
  rintro e w2 ⟨rfl, hw2⟩
  have hc : w2.cell? ⟨w1.heap.size, 0, none⟩ = some (.int .i64 x) := by
    rw [hw2]
    refine cell_set (old := .int .i64 0) ?_
    rw [World.cell?_alloc_lt _ _ _ (by simp; omega), World.cell?_alloc_lt _ _ _ (by simp; omega), World.cell?_alloc_lt _ _ _ (by simp; omega), World.cell?_alloc_lt _ _ _ (by simp)]
    simp
  have hb : Below w1.heap.size w1 w2 := by
    rw [hw2]
    exact ((((((Below.refl _ _).alloc (Nat.le_refl _) _).alloc (by simp) _).alloc (by simp; omega) _).alloc (by simp; omega) _).alloc (by simp; omega) _).setCell (by simp) _
  have HB2 := hide hb
  clear hw2 hb
  go_wp2_with fail
  go_ret2
  exact ⟨rfl, HB.out.trans (HB2.out.mono (Nat.le_of_lt HZ.out))⟩

set_option maxHeartbeats 1000000 in
theorem told_file (b : Nat) (name : ByteArray) (x : Int) (w : World) (he : ErrT w) (h0 : w.cell? ⟨b, 0, none⟩ = some (.string name)) (h1 : w.cell? ⟨b, 1, none⟩ = some (.int .i64 x)) :
    Calls Tryz.prog 33 #[.iface 123 (.pointer (some ⟨b, 0, none⟩))] w fun e w' => e = .returned (.tuple #[.int .i64 x, .string name]) ∧ Below w.heap.size w w' := by
  have hbl : b < w.heap.size := World.block_lt_of_cell? w _ h0
  have hb1 : Below w.heap.size w (w.alloc (.cells #[.pointer none] 123)) := (Below.refl _ _).alloc (Nat.le_refl _) _
  have HM := hide (as_hitF ⟨b, 0, none⟩ ⟨w.heap.size, 0, none⟩ (.pointer none) _ (he.keep hb1) (by simp) (by simp))
  have HE := hide he
  have H0 := hide h0
  have H1 := hide h1
  clear he hb1 h0 h1
  go_enter Tryz.func33, Tryz.ntmps33
  go_wp2_with fail
  refine HM.out.mono ?_
  rintro e w1 ⟨rfl, hw1⟩
  have hc : w1.cell? ⟨w.heap.size, 0, none⟩ = some (.pointer (some ⟨b, 0, none⟩)) := by
    rw [hw1]
    refine cell_set (old := .pointer none) ?_
    rw [World.cell?_alloc_lt _ _ _ (by simp; omega), World.cell?_alloc_lt _ _ _ (by simp; omega), World.cell?_alloc_lt _ _ _ (by simp; omega), World.cell?_alloc_lt _ _ _ (by simp)]
    simp
  have hb : Below w.heap.size w w1 := by
    rw [hw1]
    exact ((((((Below.refl _ _).alloc (Nat.le_refl _) _).alloc (by simp) _).alloc (by simp; omega) _).alloc (by simp; omega) _).alloc (by simp; omega) _).setCell (by simp) _
  have h0 : w1.cell? ⟨b, 0, none⟩ = some (.string name) := (hb.cell (p := ⟨b, 0, none⟩) hbl).trans H0.out
  have h1 : w1.cell? ⟨b, 1, none⟩ = some (.int .i64 x) := (hb.cell (p := ⟨b, 1, none⟩) hbl).trans H1.out
  have HB := hide hb
  clear hw1 hb
  go_wp2_with fail
  go_quiet (fail)
  go_wp2_with fail
  go_ret2
  exact ⟨rfl, below_drewN HB.out _⟩
end Go.Proofs.YtbhccdedcoajmaaGreatDoor
namespace Go.Proofs.YtbhccdedcoajmaaGreatDoor
open Go.ChangeShapes Go.WideShapes Go.RowKit

def laidVars : List (String × DataW Unit) := [("errors.errorType", Rows.laid_errors_errorType)]
theorem Tryz.own : ownKnob Tryz.prog.godebug = none := by kernel_rfl
theorem Tryz.et : Tryz.prog.globalNamed "errors.errorType" = some 0 := by kernel_rfl
theorem Tryz.rt : (Tryz.prog.cutTypes.find? (·.1 == "internal/reflectlite.rtype")).map (·.2) = some 210 := by kernel_rfl
theorem Tryz.oneRow : ((List.range 316).filter fun t => Tryz.prog.rowNamed t [101, 114, 114, 111, 114]) = [86] := by kernel_rfl
theorem Tryz.sizeT : Tryz.prog.types.size = 316 := by kernel_rfl

/-- what the listed variable's reading gives a walk: its one cell -/
theorem errT_of_laid {W : World} (h : laidMetH Tryz.prog laidVars W) : ErrT W := by
  have h' : laidMet Tryz.prog [] W ∧ handlesMet Tryz.prog laidVars W := h
  obtain ⟨name, u, ty, e1, e2, e3, e4, e5⟩ := h'.2 _ (List.mem_singleton.2 rfl)
  have en : name = [101, 114, 114, 111, 114] := (Option.some.inj e1).symm
  subst en
  obtain rfl := Option.some.inj (Tryz.rt.symm.trans e2)
  have hm : ty ∈ (List.range 316).filter fun t => Tryz.prog.rowNamed t [101, 114, 114, 111, 114] := List.mem_filter.2 ⟨List.mem_range.2 (by rw [← Tryz.sizeT]; exact e3), e4⟩
  rw [Tryz.oneRow] at hm
  obtain rfl := List.mem_singleton.1 hm
  have hh : typeHandle Tryz.prog 86 = .pointer (some ⟨1, 86, none⟩) := by kernel_rfl
  rw [hh] at e5
  unfold ErrT
  simpa using World.var?_cell Tryz.et e5 0

/-- a world that meets the condition: the settled one, the variable's cell laid -/
theorem laidWorld_met (os : Os) (args : Array Value) : laidMetH Tryz.prog laidVars (({ World.holding Tryz.prog os ⟨#[], #[], []⟩ with heap := (World.holding Tryz.prog os ⟨#[], #[], []⟩).heap.modify 0 (fun o => match o with | .cells _ t frozen => .cells #[.iface 210 (.agg #[.pointer (some ⟨1, 86, none⟩)])] t frozen | o => o) } : World).forCall (fun _ _ => 0) ⟨#[], args, []⟩).memory :=
  laidMetH_of_parts (laidMet_nil _ _) (by kernel_rfl)
end Go.Proofs.YtbhccdedcoajmaaGreatDoor
namespace Go.Proofs.YtbhccdedcoajmaaGreatDoor
open Go Go.RowKit

/-- block number i of a file, the last one perhaps shorter -/
def chunk (zs : List Int) (B i : Nat) : List Int := (zs.drop (i * B)).take B
def chunks (n B : Nat) : Nat := (n + B - 1) / B
theorem lt_chunks {n B k : Nat} (hB : 0 < B) : k < chunks n B ↔ k * B < n := by
  unfold chunks
  rw [Nat.lt_iff_add_one_le, Nat.le_div_iff_mul_le hB, Nat.add_mul]
  omega
theorem chunks_le {n B : Nat} (hB : 0 < B) : chunks n B ≤ n := by
  rcases Nat.lt_or_ge n (chunks n B) with h | h
  · have := (lt_chunks hB).1 h
    have := Nat.le_mul_of_pos_right n hB
    omega
  · exact h
theorem chunk_length (zs : List Int) (B i : Nat) : (chunk zs B i).length = min B (zs.length - i * B) := by simp [chunk]
theorem Bytes.chunk {zs : List Int} (h : Bytes zs) (B i : Nat) : Bytes (chunk zs B i) := (h.drop _).take _
theorem chunk_at {zs : List Int} {B i k : Nat} (h : k < (chunk zs B i).length) : ∃ h' : i * B + k < zs.length, (chunk zs B i)[k] = zs[i * B + k] := by
  have hl := chunk_length zs B i
  exact ⟨by omega, by simp [chunk]⟩

/-- what Sign tells of one block, as cells -/
def sumCells (c : List Int) : List Value := [.int .i64 c.length, .int .u32 (weakOf c), .int .u64 (digestOf c)]
def signCells (zs : List Int) (B k : Nat) : List Value := (List.range k).flatMap fun i => sumCells (chunk zs B i)
theorem signCells_zero (zs : List Int) (B : Nat) : signCells zs B 0 = [] := rfl
theorem signCells_succ (zs : List Int) (B k : Nat) : signCells zs B (k + 1) = signCells zs B k ++ sumCells (chunk zs B k) := by
  simp [signCells, List.range_succ, List.flatMap_append]
theorem signCells_length (zs : List Int) (B k : Nat) : (signCells zs B k).length = k * 3 := by
  induction k with
  | zero => rfl
  | succ k ih => rw [signCells_succ, List.length_append, ih]; simp [sumCells]; omega
theorem signCells_at (zs : List Int) (B k i j : Nat) (hi : i < k) (hj : j < 3) : (signCells zs B k)[i * 3 + j]? = (sumCells (chunk zs B i))[j]? := by
  induction k with
  | zero => omega
  | succ k ih =>
    rw [signCells_succ]
    by_cases h : i < k
    · rw [List.getElem?_append_left (by rw [signCells_length]; omega)]; exact ih h
    · obtain rfl : i = k := by omega
      rw [List.getElem?_append_right (by rw [signCells_length]; omega), signCells_length]
      rw [show i * 3 + j - i * 3 = j by omega]

theorem nums_extract (t : ByteArray) (i j : Nat) : nums (t.extract i j) = ((nums t).drop i).take (j - i) := by
  simp [nums, ByteArray.data_extract, Array.toList_extract, List.map_drop, List.map_take]

theorem grownBy_of_below {w w' : World} (h : Below w.heap.size w w') : w.grownBy w' none := ⟨h.os, h.tape, h.output, h.size, fun k hk _ => h.block k hk⟩
theorem ownsRow_below {w w' : World} {base : Nat} {e : TypeId} {size : Nat} {v : Value} {n : Nat} {xs : List Value} (h : w.ownsRow base e size v n xs) (hb : Below w.heap.size w w') : w'.ownsRow base e size v n xs := by
  refine h.kept (grownBy_of_below hb) ?_
  cases hv : v.ownBlock with
  | none => exact .inl rfl
  | some k => exact .inr (by simp)
theorem below_seq {B : Nat} {a b c : World} (h : Below B a b) (k : Below b.heap.size b c) (hB : B ≤ b.heap.size) : Below B a c := h.trans (k.mono hB)
theorem below_all {a b c : World} (h : Below a.heap.size a b) (k : Below b.heap.size b c) : Below a.heap.size a c := below_seq h k h.size
end Go.Proofs.YtbhccdedcoajmaaGreatDoor
namespace Go.Proofs.YtbhccdedcoajmaaGreatDoor
open Go Go.RowKit

/-- a token, as plain data -/
structure Tok where
  block : Int
  count : Int
  data : List Int

def pushByte (out : List Tok) (x : Int) : List Tok :=
  match out.getLast? with
  | some t => if t.count = 0 ∧ t.data.length < 255 then out.dropLast ++ [⟨t.block, t.count, t.data ++ [x]⟩] else out ++ [⟨0, 0, [x]⟩]
  | none => [⟨0, 0, [x]⟩]
def pushBlock (out : List Tok) (k : Int) : List Tok :=
  match out.getLast? with
  | some t => if 0 < t.count ∧ t.count < 255 ∧ t.block + t.count = k then out.dropLast ++ [⟨t.block, t.count + 1, t.data⟩] else out ++ [⟨k, 1, []⟩]
  | none => [⟨k, 1, []⟩]
theorem pushByte_nil (x : Int) : pushByte [] x = [⟨0, 0, [x]⟩] := rfl
theorem pushByte_snoc (l : List Tok) (t : Tok) (x : Int) : pushByte (l ++ [t]) x = if t.count = 0 ∧ t.data.length < 255 then l ++ [⟨t.block, t.count, t.data ++ [x]⟩] else (l ++ [t]) ++ [⟨0, 0, [x]⟩] := by
  simp [pushByte]
theorem pushBlock_nil (k : Int) : pushBlock [] k = [⟨k, 1, []⟩] := rfl
theorem pushBlock_snoc (l : List Tok) (t : Tok) (k : Int) : pushBlock (l ++ [t]) k = if 0 < t.count ∧ t.count < 255 ∧ t.block + t.count = k then l ++ [⟨t.block, t.count + 1, t.data⟩] else (l ++ [t]) ++ [⟨k, 1, []⟩] := by
  simp [pushBlock]
theorem snoc_cases {α : Type} (l : List α) : l = [] ∨ ∃ i t, l = i ++ [t] := by
  rcases l.eq_nil_or_concat with h | ⟨i, t, h⟩
  · exact .inl h
  · exact .inr ⟨i, t, by simpa using h⟩

/-- the least whole block that is p -/
def findBlk (zs : List Int) (B : Nat) (p : List Int) : Option Nat := (List.range (zs.length / B)).find? fun i => decide (chunk zs B i = p)
theorem findBlk_some {zs : List Int} {B : Nat} {p : List Int} {i : Nat} : findBlk zs B p = some i ↔ i < zs.length / B ∧ chunk zs B i = p ∧ ∀ j, j < i → chunk zs B j ≠ p := by
  unfold findBlk
  rw [List.find?_range_eq_some]
  simp
  constructor
  · rintro ⟨h1, h2, h3⟩; exact ⟨h2, h1, h3⟩
  · rintro ⟨h1, h2, h3⟩; exact ⟨h2, h1, h3⟩
theorem findBlk_none {zs : List Int} {B : Nat} {p : List Int} : findBlk zs B p = none ↔ ∀ j, j < zs.length / B → chunk zs B j ≠ p := by
  unfold findBlk
  rw [List.find?_range_eq_none]
  simp
theorem whole_chunk {zs : List Int} {B i : Nat} (hB : 0 < B) (h : i < zs.length / B) : (i + 1) * B ≤ zs.length ∧ (chunk zs B i).length = B := by
  have h1 : (i + 1) * B ≤ zs.length := (Nat.le_div_iff_mul_le hB).1 h
  have h2 := chunk_length zs B i
  rw [Nat.add_mul] at h1
  refine ⟨by rw [Nat.add_mul]; exact h1, by omega⟩
theorem findBlk_short {zs : List Int} {B : Nat} {p : List Int} (hB : 0 < B) (h : p.length < B) : findBlk zs B p = none := by
  rw [findBlk_none]
  intro j hj e
  have := (whole_chunk hB hj).2
  rw [e] at this; omega

def diffGo (zs : List Int) (B : Nat) (out : List Tok) (rest : List Int) : List Tok :=
  match rest with
  | [] => out
  | x :: r =>
    match findBlk zs B ((x :: r).take B) with
    | some k => diffGo zs B (pushBlock out k) (r.drop (B - 1))
    | none => diffGo zs B (pushByte out x) r
  termination_by rest.length
  decreasing_by
    · simp only [List.length_drop, List.length_cons]; omega
    · simp

theorem diffGo_nil (zs : List Int) (B : Nat) (out : List Tok) : diffGo zs B out [] = out := by rw [diffGo]
theorem diffGo_hit {zs : List Int} {B : Nat} (hB : 0 < B) {out : List Tok} {rest : List Int} {k : Nat} (h : findBlk zs B (rest.take B) = some k) : diffGo zs B out rest = diffGo zs B (pushBlock out k) (rest.drop B) := by
  match rest, h with
  | [], h =>
    exfalso
    rw [findBlk_short hB (by simpa using hB)] at h
    cases h
  | x :: r, h =>
    rw [diffGo, h]
    simp only
    obtain ⟨b, rfl⟩ : ∃ b, B = b + 1 := ⟨B - 1, by omega⟩
    rfl
theorem diffGo_miss {zs : List Int} {B : Nat} {out : List Tok} {x : Int} {r : List Int} (h : findBlk zs B ((x :: r).take B) = none) : diffGo zs B out (x :: r) = diffGo zs B (pushByte out x) r := by
  rw [diffGo, h]
theorem diffGo_short {zs : List Int} {B : Nat} (hB : 0 < B) : ∀ (rest : List Int) (out : List Tok), rest.length < B → diffGo zs B out rest = rest.foldl pushByte out
  | [], out, _ => diffGo_nil _ _ _
  | x :: r, out, h => by
    rw [diffGo_miss (findBlk_short hB (by rw [List.length_take]; omega)), diffGo_short hB r _ (by simp at h; omega)]; rfl

def diffOf (zs ds : List Int) (B : Nat) : List Tok := diffGo zs B [] ds

/-- no byte joins the last token -/
def Shut (out : List Tok) : Prop := ∀ t, out.getLast? = some t → ¬ (t.count = 0 ∧ t.data.length < 255)
theorem shut_nil : Shut [] := by intro t h; simp at h
theorem shut_snoc {l : List Tok} {t : Tok} (h : ¬ (t.count = 0 ∧ t.data.length < 255)) : Shut (l ++ [t]) := by intro t' h'; simp at h'; subst h'; exact h
theorem shut_push {out : List Tok} (h : Shut out) (x : Int) : pushByte out x = out ++ [⟨0, 0, [x]⟩] := by
  rcases snoc_cases out with rfl | ⟨i, t, rfl⟩
  · rfl
  · rw [pushByte_snoc, if_neg (h t (by simp))]
theorem push_more (l : List Tok) : ∀ (p d : List Int), d.length + p.length ≤ 255 → p.foldl pushByte (l ++ [⟨0, 0, d⟩]) = l ++ [⟨0, 0, d ++ p⟩]
  | [], d, _ => by simp
  | x :: r, d, h => by
    simp only [List.length_cons] at h
    rw [List.foldl_cons, pushByte_snoc, if_pos ⟨rfl, by simp only; omega⟩, push_more l r (d ++ [x]) (by simp; omega)]
    simp
theorem push_part {out : List Tok} (h : Shut out) {p : List Int} (h0 : 0 < p.length) (h1 : p.length ≤ 255) : p.foldl pushByte out = out ++ [⟨0, 0, p⟩] := by
  match p, h0 with
  | x :: r, _ =>
    rw [List.foldl_cons, shut_push h, push_more out r [x] (by simp at h1 ⊢; omega)]
    simp
theorem shut_pushBlock (out : List Tok) (k : Int) : Shut (pushBlock out k) := by
  rcases snoc_cases out with rfl | ⟨i, t, rfl⟩
  · exact shut_snoc (l := []) (by simp)
  · rw [pushBlock_snoc]
    split
    · exact shut_snoc (by simp only; omega)
    · exact shut_snoc (by simp)
end Go.Proofs.YtbhccdedcoajmaaGreatDoor

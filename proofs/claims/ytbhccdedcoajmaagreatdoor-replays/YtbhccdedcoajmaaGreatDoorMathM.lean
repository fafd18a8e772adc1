import Derived.WalkKit
import Derived.Laws.BitsAllLaws
import Derived.Test.YtbhccdedcoajmaaGreatDoorProg
import Derived.WalkLawsBesides
import Derived.LaidEql
import Derived.Stop.Asserts
import Derived.RowKitTokens
namespace Go.Proofs.YtbhccdedcoajmaaGreatDoor
open Go Go.RowKit

/-- the plain sum -/
def sumA : List Int → Int
  | [] => 0
  | x :: t => x + sumA t

/-- each byte counted once for itself and once for each byte behind it -/
def sumB : List Int → Int
  | [] => 0
  | x :: t => (t.length + 1) * x + sumB t

theorem sumA_snoc (l : List Int) (x : Int) : sumA (l ++ [x]) = sumA l + x := by
  induction l with
  | nil => simp [sumA]
  | cons y t ih => simp [sumA, ih]; omega

theorem sumB_snoc (l : List Int) (x : Int) : sumB (l ++ [x]) = sumB l + sumA l + x := by
  induction l with
  | nil => simp [sumB, sumA]
  | cons y t ih =>
    simp only [List.cons_append, sumB, sumA, ih, List.length_append, List.length_cons, List.length_nil]
    have : (((t.length + (0 + 1) : Nat) : Int) + 1) * y = ((t.length : Int) + 1) * y + y := by
      rw [show (((t.length + (0 + 1) : Nat) : Int) + 1) = ((t.length : Int) + 1) + 1 by omega, Int.add_mul ((t.length : Int) + 1) 1 y]; omega
    omega

def weakOf (l : List Int) : Int := sumB l % 65536 * 65536 + sumA l % 65536

def rollA (weak out i : Int) : Int := (weak - out + i) % 65536
def rollB (weak n out i : Int) : Int := (weak / 65536 - n * out + rollA weak out i) % 65536
def rollOf (weak n out i : Int) : Int := rollB weak n out i * 65536 + rollA weak out i

theorem weakOf_bd (l : List Int) : 0 ≤ weakOf l ∧ weakOf l < 4294967296 := by unfold weakOf; omega

theorem rolled (x : Int) (t : List Int) (i : Int) : rollOf (weakOf (x :: t)) (t.length + 1) x i = weakOf (t ++ [i]) := by
  have hb : sumB (x :: t) = (t.length + 1) * x + sumB t := rfl
  have ha : sumA (x :: t) = x + sumA t := rfl
  have h1 := sumA_snoc t i
  have h2 := sumB_snoc t i
  have hA : rollA (weakOf (x :: t)) x i = sumA (t ++ [i]) % 65536 := by
    unfold rollA weakOf; omega
  have hB : rollB (weakOf (x :: t)) (t.length + 1) x i = sumB (t ++ [i]) % 65536 := by
    unfold rollB; rw [hA]; unfold weakOf
    generalize (((t.length : Int) + 1) * x) = p at *
    omega
  unfold rollOf; rw [hA, hB]; rfl

/-- the reference's own running sum, k of n bytes in -/
theorem ref_step (n k : Nat) (A B x : Int) :
    B + (n - k) * A + (n - k) * x = (B + A + x) + (n - (k + 1)) * (A + x) := by
  have : (n - k : Int) * A + (n - k) * x = (n - k : Int) * (A + x) := by rw [Int.mul_add]
  have h2 : (n - k : Int) * (A + x) = (n - (k + 1) : Int) * (A + x) + (A + x) := by
    rw [show (n - k : Int) = (n - (k + 1) : Int) + 1 by omega, Int.add_mul]; omega
  omega

theorem or_join (a b : Int) (ha : 0 ≤ a ∧ a < 65536) (hb : 0 ≤ b ∧ b < 65536) : bits .or .u32 (b * 65536) a = b * 65536 + a := by
  rw [u32_or _ _ (by omega) (by omega) (by omega) (by omega), nat_join 16 _ _ (by omega) (by omega)]; omega

/-- one step of the digest, as both texts take it -/
def dstep (d x : Int) : Int := IntKind.u64.wrap (bits .xor .u64 d x * 1099511628211)
def digestOf (l : List Int) : Int := l.foldl dstep 14695981039346656037
theorem digestOf_nil : digestOf [] = 14695981039346656037 := rfl
theorem digestOf_snoc (l : List Int) (x : Int) : digestOf (l ++ [x]) = dstep (digestOf l) x := by simp [digestOf, List.foldl_append]

/-- a list of bytes, as numbers -/
def Bytes (l : List Int) : Prop := ∀ x, x ∈ l → 0 ≤ x ∧ x < 256

theorem take_snoc {l : List Int} {k : Nat} (h : k < l.length) : l.take (k + 1) = l.take k ++ [l[k]] := by
  rw [List.take_succ_eq_append_getElem h]

/-- the numbers of a text's bytes -/
def nums (s : ByteArray) : List Int := s.data.toList.map fun c => (c.toNat : Int)
theorem nums_length (s : ByteArray) : (nums s).length = s.size := by simp [nums]
theorem nums_bytes (s : ByteArray) : Bytes (nums s) := by
  intro x hx; simp only [nums, List.mem_map] at hx; obtain ⟨c, _, rfl⟩ := hx
  have := c.toNat_lt; omega
theorem nums_at (s : ByteArray) (k : Nat) (h : k < s.size) : (nums s)[k]'(by rw [nums_length]; exact h) = (s[k].toNat : Int) := by
  simp [nums]; rfl

theorem sumA_take {l : List Int} {k : Nat} (h : k < l.length) : sumA (l.take (k + 1)) = sumA (l.take k) + l[k] := by rw [take_snoc h, sumA_snoc]
theorem sumB_take {l : List Int} {k : Nat} (h : k < l.length) : sumB (l.take (k + 1)) = sumB (l.take k) + sumA (l.take k) + l[k] := by rw [take_snoc h, sumB_snoc]
theorem digestOf_take {l : List Int} {k : Nat} (h : k < l.length) : digestOf (l.take (k + 1)) = dstep (digestOf (l.take k)) l[k] := by rw [take_snoc h, digestOf_snoc]

theorem sumA_bd {l : List Int} (h : Bytes l) : 0 ≤ sumA l ∧ sumA l ≤ 255 * l.length := by
  induction l with
  | nil => simp [sumA]
  | cons x t ih =>
    have := ih (fun y hy => h y (List.mem_cons_of_mem _ hy))
    have hx := h x List.mem_cons_self
    simp only [sumA, List.length_cons]; omega
theorem Bytes.take {l : List Int} (h : Bytes l) (k : Nat) : Bytes (l.take k) := fun x hx => h x (List.mem_of_mem_take hx)
theorem Bytes.drop {l : List Int} (h : Bytes l) (k : Nat) : Bytes (l.drop k) := fun x hx => h x (List.mem_of_mem_drop hx)

theorem mul_mod (n o : Int) : (n % 65536 * o) % 65536 = (n * o) % 65536 := by
  rw [Int.mul_emod, Int.emod_emod_of_dvd _ (Int.dvd_refl _), ← Int.mul_emod]
theorem roll_a (x o i : Int) : IntKind.u16.wrap (x % 65536 + IntKind.u16.wrap (i - o)) = rollA x o i := by
  rw [IntKind.wrap_u16, IntKind.wrap_u16]; unfold rollA; omega
theorem roll_b (x n o i : Int) : IntKind.u16.wrap (x / 65536 + IntKind.u16.wrap (rollA x o i - IntKind.u16.wrap (IntKind.u16.wrap n * o))) = rollB x n o i := by
  simp only [IntKind.wrap_u16]; rw [mul_mod]; unfold rollB; generalize n * o = p; omega
theorem rollA_bd (x o i : Int) : 0 ≤ rollA x o i ∧ rollA x o i < 65536 := by unfold rollA; omega
theorem rollB_bd (x n o i : Int) : 0 ≤ rollB x n o i ∧ rollB x n o i < 65536 := by unfold rollB; omega
theorem ref_a (x o i : Int) : (x % 65536 - o + i) % 65536 = rollA x o i := by unfold rollA; omega
theorem ref_b (x n o i : Int) : (x / 65536 - (n % 65536 * o) % 65536 + rollA x o i) % 65536 = rollB x n o i := by
  rw [mul_mod]; unfold rollB; generalize n * o = p; omega
theorem tmod_neg (v : Int) (h : v.tmod 65536 < 0) : v.tmod 65536 + 65536 = v % 65536 := by
  rcases Int.lt_or_le v 0 with hv | hv
  · obtain ⟨u, rfl⟩ : ∃ u, v = -u := ⟨-v, by omega⟩
    rw [Int.neg_tmod, Int.tmod_eq_emod_of_nonneg (by omega)] at *; omega
  · rw [Int.tmod_eq_emod_of_nonneg hv] at *; omega
theorem tmod_pos (v : Int) (h : ¬ v.tmod 65536 < 0) : v.tmod 65536 = v % 65536 := by
  rcases Int.lt_or_le v 0 with hv | hv
  · obtain ⟨u, rfl⟩ : ∃ u, v = -u := ⟨-v, by omega⟩
    rw [Int.neg_tmod, Int.tmod_eq_emod_of_nonneg (by omega)] at *; omega
  · rw [Int.tmod_eq_emod_of_nonneg hv]
theorem tmod_bd (v : Int) : -65536 < v.tmod 65536 ∧ v.tmod 65536 < 65536 := by
  rcases Int.lt_or_le v 0 with hv | hv
  · obtain ⟨u, rfl⟩ : ∃ u, v = -u := ⟨-v, by omega⟩
    rw [Int.neg_tmod, Int.tmod_eq_emod_of_nonneg (by omega)]; omega
  · rw [Int.tmod_eq_emod_of_nonneg hv]; omega
theorem dstep_wrap (d x : Int) (h0 : 0 ≤ x) (h1 : x < 256) : IntKind.u64.wrap (bits .xor .u64 d (IntKind.u64.wrap x) * 1099511628211) = dstep d x := by
  rw [show IntKind.u64.wrap x = x by rw [IntKind.wrap_u64]; omega]; rfl
end Go.Proofs.YtbhccdedcoajmaaGreatDoor
namespace Go.Proofs.YtbhccdedcoajmaaGreatDoor
open Go.RowKit

theorem hide {p : Prop} (h : p) : Hid p := h
theorem ret_int {k : IntKind} {a b : Int} (h : a = b) : Ending.returned (.int k a) = .returned (.int k b) := by rw [h]

set_option maxHeartbeats 400000 in
theorem join_any (a b : Int) (ha0 : 0 ≤ a) (ha1 : a < 65536) (hb0 : 0 ≤ b) (hb1 : b < 65536) (w : World) :
    Calls Tryz.prog 175 #[.int .u16 a, .int .u16 b] w fun e w' => e = .returned (.int .u32 (b * 65536 + a)) ∧ w' = w := by
  go_enter Tryz.func175, Tryz.ntmps175
  go_wp2
  go_ret
  exact ⟨ret_int (or_join a b ⟨ha0, ha1⟩ ⟨hb0, hb1⟩), rfl⟩

set_option maxHeartbeats 400000 in
theorem digest_any (b off cap : Nat) (zs : List Int) (w : World) (hm : zs.length ≤ 70000) (hz : Bytes zs)
    (hc : ∀ k (h : k < zs.length), w.cell? ⟨b, off + k, none⟩ = some (.int .u8 zs[k])) :
    Calls Tryz.prog 124 #[.slice (some ⟨b, off, none⟩) zs.length cap] w fun e w' => e = .returned (.int .u64 (digestOf zs)) ∧ w' = w := by
  obtain ⟨n, hn⟩ : ∃ n, n = zs.length := ⟨_, rfl⟩
  have HN : Hid (n = zs.length) := hn
  rw [← hn] at hm ⊢
  have hc' : ∀ k, k < n → ∃ x, w.cell? ⟨b, off + k, none⟩ = some (.int .u8 x) ∧ 0 ≤ x ∧ x < 256 ∧ digestOf (zs.take (k + 1)) = dstep (digestOf (zs.take k)) x := by
    intro k hk
    have hk' : k < zs.length := by omega
    exact ⟨zs[k], hc k hk', (hz _ (List.getElem_mem hk')).1, (hz _ (List.getElem_mem hk')).2, digestOf_take hk'⟩
  clear hc hz hn
  go_enter Tryz.func124, Tryz.ntmps124
  go_wp2
  go_loop [3, 8] (fun v i => ∃ (k : Nat), k ≤ n ∧ i = .int .i64 k ∧ v = .int .u64 (digestOf (zs.take k))) (fun _ i => n - (intOf i).toNat)
  case atStart => exact ⟨0, Nat.zero_le _, rfl, rfl⟩
  case round =>
    obtain ⟨k, hk, rfl, rfl⟩ := hrel
    by_cases hlt : k < n
    · obtain ⟨x, hcell, hx0, hx1, hs⟩ := hc' k hlt
      have HS := hide hs
      clear hs hc'
      generalize digestOf (zs.take k) = d at *
      go_wp2
      go_round
      case rel => exact ⟨k + 1, by omega, by go_num, by rw [HS.out]; rfl⟩
      case measure => simp [intOf]; omega
    · go_wp2
      go_ret
      exact ⟨ret_int (by rw [List.take_of_length_le (by have := HN.out; omega)]), rfl⟩

set_option maxHeartbeats 400000 in
theorem weak_any (b off cap : Nat) (zs : List Int) (w : World) (hm : zs.length ≤ 70001) (hz : Bytes zs)
    (hc : ∀ k (h : k < zs.length), w.cell? ⟨b, off + k, none⟩ = some (.int .u8 zs[k])) :
    Calls Tryz.prog 172 #[.slice (some ⟨b, off, none⟩) zs.length cap] w fun e w' => e = .returned (.int .u32 (weakOf zs)) ∧ w' = w := by
  obtain ⟨n, hn⟩ : ∃ n, n = zs.length := ⟨_, rfl⟩
  have HN : Hid (n = zs.length) := hn
  rw [← hn] at hm ⊢
  have hc' : ∀ k, k < n → ∃ x, w.cell? ⟨b, off + k, none⟩ = some (.int .u8 x) ∧ 0 ≤ x ∧ x < 256 ∧ sumA (zs.take (k + 1)) = sumA (zs.take k) + x ∧ sumB (zs.take (k + 1)) = sumB (zs.take k) + sumA (zs.take k) + x := by
    intro k hk
    have hk' : k < zs.length := by omega
    exact ⟨zs[k], hc k hk', (hz _ (List.getElem_mem hk')).1, (hz _ (List.getElem_mem hk')).2, sumA_take hk', sumB_take hk'⟩
  clear hc hz hn
  go_enter Tryz.func172, Tryz.ntmps172
  go_wp2
  go_loop [3, 4, 9] (fun a b i => ∃ (k : Nat), k ≤ n ∧ i = .int .i64 k ∧ a = .int .u16 (sumA (zs.take k) % 65536) ∧ b = .int .u16 (sumB (zs.take k) % 65536)) (fun _ _ i => n - (intOf i).toNat)
  case atStart => exact ⟨0, Nat.zero_le _, rfl, rfl, rfl⟩
  case round =>
    obtain ⟨k, hk, rfl, rfl, rfl⟩ := hrel
    by_cases hlt : k < n
    · obtain ⟨x, hcell, hx0, hx1, hs⟩ := hc' k hlt
      have HS := hide hs
      clear hs hc'
      generalize sumA (zs.take k) = A at *
      generalize sumB (zs.take k) = B at *
      go_wp2_with fail
      go_round
      case rel =>
        have hs := HS.out
        exact ⟨k + 1, by omega, by go_num, by rw [hs.1, IntKind.wrap_u16]; congr 1; omega, by rw [hs.2, IntKind.wrap_u16, IntKind.wrap_u16]; congr 1; omega⟩
      case measure => simp [intOf]; omega
    · go_wp2_with fail
      refine (join_any _ _ (by omega) (by omega) (by omega) (by omega) _).mono ?_
      rintro e w' ⟨rfl, rfl⟩
      go_wp2
      go_ret
      exact ⟨ret_int (by rw [List.take_of_length_le (by have := HN.out; omega)]; rfl), rfl⟩

set_option maxHeartbeats 400000 in
theorem weak_nil (w : World) :
    Calls Tryz.prog 172 #[.slice none 0 0] w fun e w' => e = .returned (.int .u32 0) ∧ w' = w := by
  go_enter Tryz.func172, Tryz.ntmps172
  go_wp2
  refine wp_loop_rounds 1 ?_
  rw [rounds_succ]
  go_wp2_with fail
  refine (join_any _ _ (by omega) (by omega) (by omega) (by omega) _).mono ?_
  rintro e w' ⟨rfl, rfl⟩
  go_wp2
  go_ret
  exact ⟨ret_int (by omega), rfl⟩

set_option maxHeartbeats 400000 in
theorem rdigest_any (s : ByteArray) (hm : s.size ≤ 70000) (w : World) :
    Calls Tryz.prog 35 #[.string s] w fun e w' => e = .returned (.int .u64 (digestOf (nums s))) ∧ w' = w := by
  have hc' : ∀ k (h : k < s.size), digestOf ((nums s).take (k + 1)) = dstep (digestOf ((nums s).take k)) (s[k].toNat : Int) := by
    intro k h; rw [← nums_at s k h]; exact digestOf_take (by rw [nums_length]; exact h)
  have HC := hide hc'
  clear hc'
  go_enter Tryz.func35, Tryz.ntmps35
  go_wp2
  go_loop [3, 4] (fun v i => ∃ (k : Nat), k ≤ s.size ∧ i = .int .i64 k ∧ v = .int .u64 (digestOf ((nums s).take k))) (fun _ i => s.size - (intOf i).toNat)
  case atStart => exact ⟨0, Nat.zero_le _, rfl, rfl⟩
  case round =>
    obtain ⟨k, hk, rfl, rfl⟩ := hrel
    by_cases hlt : k < s.size
    · have HS := hide (HC.out k hlt)
      have hx := s[k].toNat_lt
      generalize digestOf ((nums s).take k) = d at *
      go_wp2
      go_round
      case rel => exact ⟨k + 1, by omega, by go_num, by rw [HS.out]; rfl⟩
      case measure => simp [intOf]; omega
    · go_wp2
      go_ret
      exact ⟨ret_int (by rw [List.take_of_length_le (by rw [nums_length]; omega)]), rfl⟩

end Go.Proofs.YtbhccdedcoajmaaGreatDoor
namespace Go.Proofs.YtbhccdedcoajmaaGreatDoor
open Go.RowKit Go.Extern.Stop Go.Stop Go.Extern

/-- errors.As of no error -/
theorem as_nil (t : Value) (w : World) :
    Calls Tryz.prog 49 #[.nilIface, t] w fun e w' => e = .returned (.bool false) ∧ w' = w := by
  go_enter Tryz.func49, Tryz.ntmps49
  go_wp2
  go_ret
  exact ⟨rfl, rfl⟩

theorem Tryz.methodKind (h : Value) (w : World) : (Go.method 416 210 (.agg #[h]) "Kind").run Tryz.prog w = .ok (190, h) w := by kernel_rfl
theorem Tryz.methodElem (h : Value) (w : World) : (Go.method 416 210 (.agg #[h]) "Elem").run Tryz.prog w = .ok (202, .agg #[h]) w := by kernel_rfl
theorem Tryz.methodImplements (h : Value) (w : World) : (Go.method 416 210 (.agg #[h]) "Implements").run Tryz.prog w = .ok (203, .agg #[h]) w := by kernel_rfl
theorem Tryz.methodAssignableTo (h : Value) (w : World) : (Go.method 416 210 (.agg #[h]) "AssignableTo").run Tryz.prog w = .ok (200, .agg #[h]) w := by kernel_rfl

/-! ### the target's type 125, its element type 123 (kind 22) -/
theorem Tryz.valueOf125 (t : Addr) (w : World) : (ReflectliteValue.unpack (.iface 125 (.pointer (some t)))).run Tryz.prog w
    = .ok (.agg #[.pointer (some ⟨1, 125, none⟩), .pointer (some ⟨w.heap.size, 0, none⟩), .int .u64 150]) (w.alloc (.cells #[.pointer (some t)] 125)) := by kernel_rfl
theorem Tryz.type125 (a : Addr) (w : World) : (ReflectliteValue.methodAny (ReflectliteValue.valueError "reflectlite.Value.Type" 0) (fun t _ _ _ => ReflectliteType.toType t) #[.agg #[.pointer (some ⟨1, 125, none⟩), .pointer (some a), .int .u64 150]]).run Tryz.prog w
    = .ok (.iface 210 (.agg #[.pointer (some ⟨1, 125, none⟩)])) w := by kernel_rfl
theorem Tryz.kind125 (w : World) : ((ReflectliteType.abiMethod fun t => (fun a : Nat => Value.int IntKind.u8 (a : Int)) <$> Rtype.kind t) #[.pointer (some ⟨1, 125, none⟩)]).run Tryz.prog w = .ok (.int .u8 22) w := by kernel_rfl
theorem Tryz.kind123 (w : World) : ((ReflectliteType.abiMethod fun t => (fun a : Nat => Value.int IntKind.u8 (a : Int)) <$> Rtype.kind t) #[.pointer (some ⟨1, 123, none⟩)]).run Tryz.prog w = .ok (.int .u8 22) w := by kernel_rfl
theorem Tryz.isNilDo125 (a : Addr) (W : World) :
    (ReflectliteValue.method (ReflectliteValue.valueError "reflectlite.Value.IsNil" 0) ReflectliteValue.isNil #[.agg #[.pointer (some ⟨1, 125, none⟩), .pointer (some a), .int .u64 150]]).run Tryz.prog W = (ReflectliteValue.isNil 125 a 150 22).run Tryz.prog W := by kernel_rfl
theorem Tryz.isNil125 (a p : Addr) (W : World) (ha : W.cell? a = some (.pointer (some p))) :
    (ReflectliteValue.method (ReflectliteValue.valueError "reflectlite.Value.IsNil" 0) ReflectliteValue.isNil #[.agg #[.pointer (some ⟨1, 125, none⟩), .pointer (some a), .int .u64 150]]).run Tryz.prog W = .ok (.bool false) W := by
  rw [Tryz.isNilDo125]
  simp [ReflectliteValue.isNil, loadVar, isAgg, underlying, Tryz.underlying125, ha, Result.andThen]
theorem Tryz.elem125 (w : World) : (ReflectliteType.method ReflectliteType.elem #[.agg #[.pointer (some ⟨1, 125, none⟩)]]).run Tryz.prog w = .ok (.iface 210 (.agg #[.pointer (some ⟨1, 123, none⟩)])) w := by kernel_rfl
theorem Tryz.implements123 (w : World) : (ReflectliteType.relation "Implements" ReflectliteType.implements_ #[.agg #[.pointer (some ⟨1, 123, none⟩)], .iface 210 (.agg #[.pointer (some ⟨1, 86, none⟩)])]).run Tryz.prog w = .ok (.bool true) w := by kernel_rfl
theorem Tryz.typeOf123 (v : Value) (w : World) : (ReflectliteType.typeOf #[.iface 123 v]).run Tryz.prog w = .ok (.iface 210 (.agg #[.pointer (some ⟨1, 123, none⟩)])) w := by kernel_rfl
theorem Tryz.assignable123 (w : World) : (ReflectliteType.relation "AssignableTo" ReflectliteType.assignableTo #[.agg #[.pointer (some ⟨1, 123, none⟩)], .iface 210 (.agg #[.pointer (some ⟨1, 123, none⟩)])]).run Tryz.prog w = .ok (.bool true) w := by kernel_rfl
theorem Tryz.valueOf123 (e : Addr) (w : World) : (ReflectliteValue.unpack (.iface 123 (.pointer (some e)))).run Tryz.prog w
    = .ok (.agg #[.pointer (some ⟨1, 123, none⟩), .pointer (some ⟨w.heap.size, 0, none⟩), .int .u64 150]) (w.alloc (.cells #[.pointer (some e)] 123)) := by kernel_rfl
theorem Tryz.elemOf125 (w : World) : (Rtype.elem? 125).run Tryz.prog w = .ok (some 123) w := by kernel_rfl
theorem Tryz.mk123 (p : Addr) (w : World) : (ReflectliteValue.mk 123 p ReflectliteValue.flagAddr).run Tryz.prog w = .ok (.agg #[.pointer (some ⟨1, 123, none⟩), .pointer (some p), .int .u64 406]) w := by kernel_rfl
theorem Tryz.elemDo125 (a : Addr) (W : World) :
    (ReflectliteValue.method (ReflectliteValue.valueError "reflectlite.Value.Elem" 0) ReflectliteValue.elem #[.agg #[.pointer (some ⟨1, 125, none⟩), .pointer (some a), .int .u64 150]]).run Tryz.prog W = (ReflectliteValue.elem 125 a 150 22).run Tryz.prog W := by kernel_rfl
theorem Tryz.elemV125 (a p : Addr) (W : World) (ha : W.cell? a = some (.pointer (some p))) :
    (ReflectliteValue.method (ReflectliteValue.valueError "reflectlite.Value.Elem" 0) ReflectliteValue.elem #[.agg #[.pointer (some ⟨1, 125, none⟩), .pointer (some a), .int .u64 150]]).run Tryz.prog W
      = .ok (.agg #[.pointer (some ⟨1, 123, none⟩), .pointer (some p), .int .u64 406]) W := by
  rw [Tryz.elemDo125]
  simp [ReflectliteValue.elem, loadVar, isAgg, underlying, Tryz.underlying125, ha, Result.andThen, Tryz.elemOf125, Tryz.mk123]
theorem Tryz.setDo123 (ta b : Addr) (W : World) :
    (ReflectliteValue.set #[.agg #[.pointer (some ⟨1, 123, none⟩), .pointer (some ta), .int .u64 406], .agg #[.pointer (some ⟨1, 123, none⟩), .pointer (some b), .int .u64 150]]).run Tryz.prog W
      = (do let val ← loadVar 123 b; storeVar 123 ta val; pure (.tuple #[]) : Sem Value).run Tryz.prog W := by kernel_rfl
theorem Tryz.set123 (ta b : Addr) (e : Addr) (old : Value) (W : World) (hb : W.cell? b = some (.pointer (some e))) (ht : W.cell? ta = some old) (hf : W.frozen? ta = false) :
    (ReflectliteValue.set #[.agg #[.pointer (some ⟨1, 123, none⟩), .pointer (some ta), .int .u64 406], .agg #[.pointer (some ⟨1, 123, none⟩), .pointer (some b), .int .u64 150]]).run Tryz.prog W
      = .ok (.tuple #[]) (W.setCell ta (.pointer (some e))) := by
  rw [Tryz.setDo123]
  simp [loadVar, isAgg, underlying, Tryz.underlying123, hb, Result.andThen, storeVar, Value.cells, storeCells, Addr.add]
  rw [run_store Tryz.prog W ta _ _ (by rfl)]
  simp [ht, hf]

/-! ### the target's type 128, its element type 50 (kind 2) -/
theorem Tryz.valueOf128 (t : Addr) (w : World) : (ReflectliteValue.unpack (.iface 128 (.pointer (some t)))).run Tryz.prog w
    = .ok (.agg #[.pointer (some ⟨1, 128, none⟩), .pointer (some ⟨w.heap.size, 0, none⟩), .int .u64 150]) (w.alloc (.cells #[.pointer (some t)] 128)) := by kernel_rfl
theorem Tryz.type128 (a : Addr) (w : World) : (ReflectliteValue.methodAny (ReflectliteValue.valueError "reflectlite.Value.Type" 0) (fun t _ _ _ => ReflectliteType.toType t) #[.agg #[.pointer (some ⟨1, 128, none⟩), .pointer (some a), .int .u64 150]]).run Tryz.prog w
    = .ok (.iface 210 (.agg #[.pointer (some ⟨1, 128, none⟩)])) w := by kernel_rfl
theorem Tryz.kind128 (w : World) : ((ReflectliteType.abiMethod fun t => (fun a : Nat => Value.int IntKind.u8 (a : Int)) <$> Rtype.kind t) #[.pointer (some ⟨1, 128, none⟩)]).run Tryz.prog w = .ok (.int .u8 22) w := by kernel_rfl
theorem Tryz.kind50 (w : World) : ((ReflectliteType.abiMethod fun t => (fun a : Nat => Value.int IntKind.u8 (a : Int)) <$> Rtype.kind t) #[.pointer (some ⟨1, 50, none⟩)]).run Tryz.prog w = .ok (.int .u8 2) w := by kernel_rfl
theorem Tryz.isNilDo128 (a : Addr) (W : World) :
    (ReflectliteValue.method (ReflectliteValue.valueError "reflectlite.Value.IsNil" 0) ReflectliteValue.isNil #[.agg #[.pointer (some ⟨1, 128, none⟩), .pointer (some a), .int .u64 150]]).run Tryz.prog W = (ReflectliteValue.isNil 128 a 150 22).run Tryz.prog W := by kernel_rfl
theorem Tryz.isNil128 (a p : Addr) (W : World) (ha : W.cell? a = some (.pointer (some p))) :
    (ReflectliteValue.method (ReflectliteValue.valueError "reflectlite.Value.IsNil" 0) ReflectliteValue.isNil #[.agg #[.pointer (some ⟨1, 128, none⟩), .pointer (some a), .int .u64 150]]).run Tryz.prog W = .ok (.bool false) W := by
  rw [Tryz.isNilDo128]
  simp [ReflectliteValue.isNil, loadVar, isAgg, underlying, Tryz.underlying128, ha, Result.andThen]
theorem Tryz.elem128 (w : World) : (ReflectliteType.method ReflectliteType.elem #[.agg #[.pointer (some ⟨1, 128, none⟩)]]).run Tryz.prog w = .ok (.iface 210 (.agg #[.pointer (some ⟨1, 50, none⟩)])) w := by kernel_rfl
theorem Tryz.implements50 (w : World) : (ReflectliteType.relation "Implements" ReflectliteType.implements_ #[.agg #[.pointer (some ⟨1, 50, none⟩)], .iface 210 (.agg #[.pointer (some ⟨1, 86, none⟩)])]).run Tryz.prog w = .ok (.bool true) w := by kernel_rfl
theorem Tryz.typeOf50 (v : Value) (w : World) : (ReflectliteType.typeOf #[.iface 50 v]).run Tryz.prog w = .ok (.iface 210 (.agg #[.pointer (some ⟨1, 50, none⟩)])) w := by kernel_rfl
theorem Tryz.assignable50 (w : World) : (ReflectliteType.relation "AssignableTo" ReflectliteType.assignableTo #[.agg #[.pointer (some ⟨1, 50, none⟩)], .iface 210 (.agg #[.pointer (some ⟨1, 50, none⟩)])]).run Tryz.prog w = .ok (.bool true) w := by kernel_rfl
theorem Tryz.valueOf50 (x : Int) (w : World) : (ReflectliteValue.unpack (.iface 50 (.int .i64 x))).run Tryz.prog w
    = .ok (.agg #[.pointer (some ⟨1, 50, none⟩), .pointer (some ⟨w.heap.size, 0, none⟩), .int .u64 130]) (w.alloc (.cells #[.int .i64 x] 50)) := by kernel_rfl
theorem Tryz.elemOf128 (w : World) : (Rtype.elem? 128).run Tryz.prog w = .ok (some 50) w := by kernel_rfl
theorem Tryz.mk50 (p : Addr) (w : World) : (ReflectliteValue.mk 50 p ReflectliteValue.flagAddr).run Tryz.prog w = .ok (.agg #[.pointer (some ⟨1, 50, none⟩), .pointer (some p), .int .u64 386]) w := by kernel_rfl
theorem Tryz.elemDo128 (a : Addr) (W : World) :
    (ReflectliteValue.method (ReflectliteValue.valueError "reflectlite.Value.Elem" 0) ReflectliteValue.elem #[.agg #[.pointer (some ⟨1, 128, none⟩), .pointer (some a), .int .u64 150]]).run Tryz.prog W = (ReflectliteValue.elem 128 a 150 22).run Tryz.prog W := by kernel_rfl
theorem Tryz.elemV128 (a p : Addr) (W : World) (ha : W.cell? a = some (.pointer (some p))) :
    (ReflectliteValue.method (ReflectliteValue.valueError "reflectlite.Value.Elem" 0) ReflectliteValue.elem #[.agg #[.pointer (some ⟨1, 128, none⟩), .pointer (some a), .int .u64 150]]).run Tryz.prog W
      = .ok (.agg #[.pointer (some ⟨1, 50, none⟩), .pointer (some p), .int .u64 386]) W := by
  rw [Tryz.elemDo128]
  simp [ReflectliteValue.elem, loadVar, isAgg, underlying, Tryz.underlying128, ha, Result.andThen, Tryz.elemOf128, Tryz.mk50]
theorem Tryz.setDo50 (ta b : Addr) (W : World) :
    (ReflectliteValue.set #[.agg #[.pointer (some ⟨1, 50, none⟩), .pointer (some ta), .int .u64 386], .agg #[.pointer (some ⟨1, 50, none⟩), .pointer (some b), .int .u64 130]]).run Tryz.prog W
      = (do let val ← loadVar 50 b; storeVar 50 ta val; pure (.tuple #[]) : Sem Value).run Tryz.prog W := by kernel_rfl
theorem Tryz.set50 (ta b : Addr) (x : Int) (old : Value) (W : World) (hb : W.cell? b = some (.int .i64 x)) (ht : W.cell? ta = some old) (hf : W.frozen? ta = false) :
    (ReflectliteValue.set #[.agg #[.pointer (some ⟨1, 50, none⟩), .pointer (some ta), .int .u64 386], .agg #[.pointer (some ⟨1, 50, none⟩), .pointer (some b), .int .u64 130]]).run Tryz.prog W
      = .ok (.tuple #[]) (W.setCell ta (.int .i64 x)) := by
  rw [Tryz.setDo50]
  simp [loadVar, isAgg, underlying, Tryz.underlying50, hb, Result.andThen, storeVar, Value.cells, storeCells, Addr.add]
  rw [run_store Tryz.prog W ta _ _ (by rfl)]
  simp [ht, hf]

end Go.Proofs.YtbhccdedcoajmaaGreatDoor

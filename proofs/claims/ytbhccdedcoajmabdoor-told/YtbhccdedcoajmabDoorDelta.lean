import Derived.Test.YtbhccdedcoajmabDoorConv
import Derived.Test.YtbhccdedcoajmabDoorSign
import Derived.Deep.QuietTactic
import Derived.BigQuiet
namespace Go.Proofs.YtbhccdedcoajmabDoor
open Go.RowKit

set_option maxRecDepth 10000 in
set_option maxHeartbeats 400000 in
theorem at_ok (b off cap B i mb n p : Nat) (hB1 : 1 ≤ B) (hB2 : B ≤ 64) (hn : n ≤ 300) (hcap : n ≤ cap) (hp : p = i * B) (hi : p + B ≤ n) (w : World) :
    Calls Tryd.prog 56 #[.agg #[.slice (some ⟨b, off, none⟩) n cap, .int .i64 B, .map (some mb)], .int .i64 i] w fun e w' => e = .returned (.slice (some ⟨b, off + p, none⟩) B B) ∧ Below w.heap.size w w' := by
  have hi300 : i ≤ 300 := by
    have := Nat.le_mul_of_pos_right i (show 0 < B by omega)
    omega
  have e1 : (i : Int) * (B : Int) = (p : Int) := by rw [hp]; simp
  have e2 : ((i : Int) + 1) * (B : Int) = (p : Int) + (B : Int) := by rw [Int.add_mul, e1]; omega
  clear hp
  go_enter Tryd.func56, Tryd.ntmps56
  go_wp2_with fail
  go_quiet (fail)
  go_wp2_with fail
  go_ret
  exact ⟨by simp [show p + B - p = B by omega], below_drewN ((Below.refl _ _).alloc (Nat.le_refl _) _) _⟩

set_option maxRecDepth 10000 in
set_option maxHeartbeats 400000 in
theorem whole_ok (v : Option Addr) (cap B mb n : Nat) (hB1 : 1 ≤ B) (hB2 : B ≤ 64) (hn : n ≤ 300) (w : World) :
    Calls Tryd.prog 54 #[.agg #[.slice v n cap, .int .i64 B, .map (some mb)]] w fun e w' => e = .returned (.int .i64 (n / B : Nat)) ∧ Below w.heap.size w w' := by
  have hc : wrap64 ((n : Int) / (B : Int)) = ((n / B : Nat) : Int) := by
    have := Nat.div_le_self n B
    rw [show (n : Int) / (B : Int) = ((n / B : Nat) : Int) by simp]; generalize n / B = q at *; unfold wrap64; omega
  have HC := hide hc
  clear hc
  go_enter Tryd.func54, Tryd.ntmps54
  go_wp2_with fail
  go_ret
  exact ⟨ret_int HC.out, (Below.refl _ _).alloc (Nat.le_refl _) _⟩

set_option maxRecDepth 10000 in
set_option maxHeartbeats 400000 in
theorem pairOf_any (b off cap : Nat) (zs : List Int) (w : World) (hm : zs.length ≤ 70000) (hz : Bytes zs)
    (hc : ∀ k (h : k < zs.length), w.cell? ⟨b, off + k, none⟩ = some (.int .u8 zs[k])) :
    Calls Tryd.prog 55 #[.slice (some ⟨b, off, none⟩) zs.length cap] w fun e w' => e = .returned (.agg #[.int .u32 (weakOf zs), .int .u64 (digestOf zs)]) ∧ Below w.heap.size w w' := by
  have hb1 : ∀ o, Below w.heap.size w (w.alloc o) := fun o => (Below.refl _ _).alloc (Nat.le_refl _) _
  have hbl : ∀ k (h : k < zs.length), b < w.heap.size := fun k h => World.block_lt_of_cell? w _ (hc k h)
  have hc1 : ∀ o k (h : k < zs.length), (w.alloc o).cell? ⟨b, off + k, none⟩ = some (.int .u8 zs[k]) := fun o k h => ((hb1 o).cell (p := ⟨b, off + k, none⟩) (hbl k h)).trans (hc k h)
  have HW := hide (fun o => weak_any b off cap zs (w.alloc o) (by omega) hz (hc1 o))
  have HD := hide (fun o => digest_any b off cap zs (w.alloc o) (by omega) hz (hc1 o))
  clear hb1 hc1 hc hz hbl
  generalize hn : zs.length = n at *
  clear hn
  go_enter Tryd.func55, Tryd.ntmps55
  go_wp2_with fail
  refine (HW.out _).mono ?_
  rintro e w' ⟨rfl, rfl⟩
  go_wp2_with fail
  refine (HD.out _).mono ?_
  rintro e w' ⟨rfl, rfl⟩
  go_wp2_with fail
  refine bodyPost_ret (v := .agg #[.int .u32 (weakOf zs), .int .u64 (digestOf zs)]) (by simp [results, Tryd.results55, go_sem]) rfl ⟨rfl, ?_⟩
  exact (Below.refl _ _).alloc (Nat.le_refl _) _

set_option maxHeartbeats 400000 in
theorem equal_any (b off cap b' off' cap' : Nat) (zs ys : List Int) (w : World) (hz : Bytes zs) (hy : Bytes ys)
    (hc : ∀ k (h : k < zs.length), w.cell? ⟨b, off + k, none⟩ = some (.int .u8 zs[k])) (hd : ∀ k (h : k < ys.length), w.cell? ⟨b', off' + k, none⟩ = some (.int .u8 ys[k])) :
    Calls Tryd.prog 57 #[.slice (some ⟨b, off, none⟩) zs.length cap, .slice (some ⟨b', off', none⟩) ys.length cap'] w fun e w' => e = .returned (.bool (decide (zs = ys))) ∧ w' = w := by
  have h1 := conv_cells b off cap zs w hz hc
  have h2 := conv_cells b' off' cap' ys w hy hd
  have HE := hide (textOf_eq hz hy)
  clear hz hy hc hd
  generalize zs.length = n at *
  generalize ys.length = m at *
  go_enter Tryd.func57, Tryd.ntmps57
  go_wp2_with fail
  go_ret
  exact ⟨congrArg (fun x => Ending.returned (Value.bool x)) HE.out, rfl⟩

theorem Tryd.someBytes (a : Addr) (n c : Nat) (w : World) : (binOp BinOp.eql 26 (.slice (some a) n c) (.slice none 0 0)).run Tryd.prog w = .ok (.bool false) w := by kernel_rfl
set_option maxRecDepth 10000 in
set_option maxHeartbeats 400000 in
theorem clone_any (b off cap : Nat) (zs : List Int) (w : World) (hm : zs.length ≤ 70000)
    (hc : ∀ k (h : k < zs.length), w.cell? ⟨b, off + k, none⟩ = some (.int .u8 zs[k])) :
    Calls Tryd.prog 58 #[.slice (some ⟨b, off, none⟩) zs.length cap] w fun e w' => ∃ v, e = .returned v ∧ w'.ownsRow w.heap.size 5 1 v zs.length (u8s zs) ∧ Below w.heap.size w w' := by
  obtain ⟨i0, hi, z0, z1, z2⟩ := info_parts Tryd.info5
  have hbl : ∀ k (h : k < zs.length), b < w.heap.size := fun k h => World.block_lt_of_cell? w _ (hc k h)
  have HC : Hid (∀ j u, (u8s zs)[j]? = some u → ∀ W, Below w.heap.size w W → W.cell? ((⟨b, off, none⟩ : Addr).add j) = some u) := by
    intro j u hj W hb
    have hj' : j < zs.length := by
      rcases Nat.lt_or_ge j zs.length with h | h
      · exact h
      · rw [List.getElem?_eq_none (by simpa [u8s] using h)] at hj; cases hj
    have := (hb.cell (p := ⟨b, off + j, none⟩) (hbl j hj')).trans (hc j hj')
    simp [u8s, hj'] at hj
    rw [← hj, ← this]
    simp only [Addr.add]
    split
    · subst_vars; rfl
    · rfl
  clear hc hbl
  have hul : (u8s zs).length = zs.length := by simp [u8s]
  generalize hn : zs.length = n at *
  have HN := hide hn
  have HUL := hide hul
  clear hn hul
  have hnil := Tryd.someBytes
  go_enter Tryd.func58, Tryd.ntmps58
  go_wp2_with (at_builtin; refine wpList_append_own_at _ rfl (.tmp 5) (.tmp 6) 26 rfl w.heap.size 5 i0 (.int .u8 0) 1 1 Tryd.underlying26 hi z0 z1 z2 rfl (by decide) _ 0 [] rfl (World.ownsRow_made w #[] 0 (Nat.le_refl _) (by decide) rfl) ⟨b, off, none⟩ n cap (u8s zs) rfl ?ka ?kb ?kc ?kd ?ke ?kf ?kg)
  case ka => rw [HUL.out, Nat.mul_one]
  case kb => intro j u hj; exact HC.out j u hj _ ((Below.refl _ _).alloc (Nat.le_refl _) _)
  case kc => intro u hu; simp only [u8s, List.mem_map] at hu; obtain ⟨x, _, rfl⟩ := hu; rfl
  case kd => unfold maxLen; omega
  case ke => omega
  case kf => simp
  case kg =>
    intro v' w3 hown3 hgrow3 _ _
    have HB3 : Hid (Below w.heap.size w w3) := ((Below.refl _ _).alloc (Nat.le_refl _) _).grown hgrow3 (by simp) (fun j hj => by simp [Value.ownBlock] at hj; omega)
    have HO3 := hide hown3
    clear hown3 hgrow3
    go_wp2_with fail
    go_ret
    exact ⟨_, rfl, HO3.out, HB3.out⟩
end Go.Proofs.YtbhccdedcoajmabDoor

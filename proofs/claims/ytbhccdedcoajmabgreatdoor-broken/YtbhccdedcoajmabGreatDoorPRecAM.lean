import Derived.Test.YtbhccdedcoajmabGreatDoorPTree
import Derived.Test.YtbhccdedcoajmabGreatDoorPToks
import Derived.Test.YtbhccdedcoajmabGreatDoorDiff
namespace Go.Proofs.YtbhccdedcoajmabGreatDoor
open Go.RowKit

/-- where the bytes of a file that is looked up by its name lie -/
def DataAt (w : World) (va : Option Addr) (b cp : Nat) (zs : List Int) : Prop := (0 < zs.length → va = some ⟨b, 0, none⟩) ∧ zs.length ≤ cp ∧ ∀ k (h : k < zs.length), w.cell? ⟨b, 0 + k, none⟩ = some (.int .u8 zs[k])
theorem DataAt.below {w w' : World} {va : Option Addr} {b cp : Nat} {zs : List Int} (h : DataAt w va b cp zs) (hb : Below w.heap.size w w') : DataAt w' va b cp zs := by
  obtain ⟨h1, h2, h3⟩ := h
  exact ⟨h1, h2, cells_below h3 hb⟩

set_option maxRecDepth 10000 in
set_option maxHeartbeats 1000000 in
theorem tdata_any (v : Value) (fs : List (ByteArray × ByteArray)) (nm : ByteArray) (w : World) (hl : fs.length ≤ 70000) (hF : Af w v fs) :
    Calls Tryz.prog 65 #[v, .string nm] w fun e w' => ∃ va b cp, e = .returned (.slice va (nums ((foundOf fs nm).getD ⟨#[]⟩)).length cp) ∧ DataAt w va b cp (nums ((foundOf fs nm).getD ⟨#[]⟩)) ∧ Below w.heap.size w w' := by
  obtain ⟨va, cap, rfl, hcap, hcell⟩ := hF
  have HC : Hid (∀ k (hk : k < fs.length), ∃ (g b cp : Nat), va = some ⟨g, 0, none⟩ ∧ g < w.heap.size ∧ w.cell? ⟨g, k * 2, none⟩ = some (.string fs[k].1) ∧ w.cell? ⟨g, k * 2 + 1, none⟩ = some (.slice (some ⟨b, 0, none⟩) (nums fs[k].2).length cp) ∧ DataAt w (some ⟨b, 0, none⟩) b cp (nums fs[k].2)) := by
    intro k hk
    obtain ⟨g, b, cp, e, hg, c0, c1, _, hcp, hc⟩ := hcell k hk
    exact ⟨g, b, cp, e, hg, c0, by rw [nums_length]; exact c1, fun _ => rfl, by rw [nums_length]; exact hcp, hc⟩
  have HHIT : Hid (∀ k (hk : k < fs.length), nums fs[k].1 = nums nm → (∀ j (hj : j < fs.length), j < k → nums fs[j].1 ≠ nums nm) → foundOf fs nm = some fs[k].2) := fun k hk h hno => found_hit hk h hno
  have HNO : Hid ((∀ j (hj : j < fs.length), nums fs[j].1 ≠ nums nm) → foundOf fs nm = none) := fun h => found_no h
  have HTE : Hid (∀ k (hk : k < fs.length), (fs[k].1.toList == nm.toList) = decide (nums fs[k].1 = nums nm)) := fun k hk => text_eq _ _
  clear hcell
  go_enter Tryz.func65, Tryz.ntmps65
  go_wp2_with fail
  go_loopw [9] (fun i wr => ∃ k : Nat, k ≤ fs.length ∧ i = .int .i64 k ∧ Hid (∀ j (hj : j < fs.length), j < k → nums fs[j].1 ≠ nums nm) ∧ Hid (Below w.heap.size w wr)) (fun i _ => fs.length - (intOf i).toNat)
  case atStart => exact ⟨0, Nat.zero_le _, rfl, (fun j _ hj => by omega), Below.refl _ _⟩
  case round =>
    obtain ⟨k, hk, rfl, HA, HBr⟩ := hrel
    by_cases hlt : k < fs.length
    · obtain ⟨g, b, cp, rfl, hg, c0, c1, hat⟩ := HC.out k hlt
      have d0 := (HBr.out.cell (p := ⟨g, k * 2, none⟩) hg).trans c0
      have d1 := (HBr.out.cell (p := ⟨g, k * 2 + 1, none⟩) hg).trans c1
      have hte := HTE.out k hlt
      have HIT := hide (HHIT.out k hlt)
      have HAT := hide hat
      have HNE : Hid (nums fs[k].1 ≠ nums nm → ∀ j (hj : j < fs.length), j < k + 1 → nums fs[j].1 ≠ nums nm) := by
        intro h j hj hjk
        rcases Nat.lt_or_ge j k with h' | h'
        · exact HA.out j hj h'
        · obtain rfl : j = k := by omega
          exact h
      have HB1 : Hid (∀ o, Below w.heap.size w (wr.alloc o)) := fun o => HBr.out.alloc HBr.out.size _
      clear c0 c1 hat
      generalize fs[k].1 = a at *
      generalize fs[k].2 = dt at *
      by_cases hh : nums a = nums nm
      · have HH := hide hh
        rw [decide_eq_true hh] at hte
        have HR := hide (HIT.out HH.out HA.out)
        clear hh
        go_wp2_with fail
        go_ret
        refine ⟨some ⟨b, 0, none⟩, b, cp, ?_, ?_, HB1.out _⟩
        · rw [HR.out]; rfl
        · rw [HR.out]; exact HAT.out
      · have HH := hide hh
        rw [decide_eq_false hh] at hte
        clear hh
        go_wp2_with fail
        go_roundw
        case rel => exact ⟨k + 1, by omega, by go_num, HNE.out HH.out, HB1.out _⟩
        case measure => simp [intOf]; omega
    · have HR := hide (HNO.out (fun j hj => HA.out j hj (by omega)))
      go_wp2_with fail
      go_ret
      refine ⟨none, 0, 0, ?_, ?_, HBr.out⟩
      · rw [HR.out]; rfl
      · rw [HR.out]; exact ⟨fun h => by simp [nums_empty] at h, by simp [nums_empty], fun k h => by simp [nums_empty] at h⟩

/-- an error of a list of files -/
def TreeErr (w' : World) (fs : List (ByteArray × ByteArray)) (e0 : Value) : Prop := ∃ i b, ∃ h : BadAt fs i, e0 = .iface 69 (.pointer (some ⟨b, 0, none⟩)) ∧ w'.cell? ⟨b, 0, none⟩ = some (.string (fs[i]'h.1).1) ∧ w'.cell? ⟨b, 1, none⟩ = some (.int .i64 4)
theorem tcheck_two (v : Value) (fs : List (ByteArray × ByteArray)) (w : World) (hl : fs.length ≤ 70000) (hsz : ∀ p ∈ fs, p.1.size ≤ 70000 ∧ p.2.size ≤ 70000) (hF : Af w v fs) :
    Calls Tryz.prog 36 #[v] w fun e w' => ((e = .returned .nilIface ∧ TreeOk fs) ∨ ∃ b, e = .returned (.iface 69 (.pointer (some ⟨b, 0, none⟩))) ∧ TreeErr w' fs (.iface 69 (.pointer (some ⟨b, 0, none⟩)))) ∧ Below w.heap.size w w' := by
  refine (tcheck_any v fs w hl hsz hF).mono ?_
  rintro e w' ⟨h, hb⟩
  refine ⟨?_, hb⟩
  rcases h with h | ⟨i, b, h, rfl, c0, c1⟩
  · exact .inl h
  · exact .inr ⟨b, rfl, i, b, h, rfl, c0, c1⟩

set_option maxHeartbeats 1000000 in
theorem pcheck_block (vs vr : Value) (B : Int) (h : B < 1 ∨ 64 < B) (w : World) :
    Calls Tryz.prog 61 #[vs, vr, .int .i64 B] w fun e w' => e = .returned (.iface 30 (.int .i64 1)) ∧ w' = w := by
  have HC := hide (fun w => checkBlock_bad B h w)
  clear h
  go_enter Tryz.func61, Tryz.ntmps61
  go_wp2_with fail
  refine (HC.out _).mono ?_
  rintro e w' ⟨rfl, rfl⟩
  go_wp2_with fail
  go_ret
  exact ⟨rfl, rfl⟩

set_option maxHeartbeats 1000000 in
theorem pcheck_any (vs vr : Value) (fs fr : List (ByteArray × ByteArray)) (B : Int) (h1 : 1 ≤ B) (h2 : B ≤ 64) (w : World) (hls : fs.length ≤ 70000) (hlr : fr.length ≤ 70000) (hzs : ∀ p ∈ fs, p.1.size ≤ 70000 ∧ p.2.size ≤ 70000) (hzr : ∀ p ∈ fr, p.1.size ≤ 70000 ∧ p.2.size ≤ 70000) (hFs : Af w vs fs) (hFr : Af w vr fr) :
    Calls Tryz.prog 61 #[vs, vr, .int .i64 B] w fun e w' => ((e = .returned .nilIface ∧ TreeOk fs ∧ TreeOk fr) ∨ ∃ b, e = .returned (.iface 69 (.pointer (some ⟨b, 0, none⟩))) ∧ (TreeErr w' fs (.iface 69 (.pointer (some ⟨b, 0, none⟩))) ∨ TreeOk fs ∧ TreeErr w' fr (.iface 69 (.pointer (some ⟨b, 0, none⟩))))) ∧ Below w.heap.size w w' := by
  have HC := hide (fun w => checkBlock_ok B h1 h2 w)
  have HS := hide (tcheck_two vs fs w hls hzs hFs)
  have HR : Hid (∀ W, Below w.heap.size w W → Calls Tryz.prog 36 #[vr] W fun e w' => ((e = .returned .nilIface ∧ TreeOk fr) ∨ ∃ b, e = .returned (.iface 69 (.pointer (some ⟨b, 0, none⟩))) ∧ TreeErr w' fr (.iface 69 (.pointer (some ⟨b, 0, none⟩)))) ∧ Below W.heap.size W w') := fun W hb => tcheck_two vr fr W hlr hzr (hFr.below hb)
  clear hFs hFr hzs hzr
  go_enter Tryz.func61, Tryz.ntmps61
  go_wp2_with fail
  refine (HC.out _).mono ?_
  rintro e w' ⟨rfl, hw'⟩
  obtain rfl := hw'.symm
  go_wp2_with fail
  refine HS.out.mono ?_
  rintro e w1 ⟨⟨rfl, hok⟩ | ⟨b, rfl, herr⟩, hb1⟩
  · have HOK := hide hok
    have HB1 := hide hb1
    clear hok hb1
    go_wp2_with fail
    refine (HR.out _ HB1.out).mono ?_
    rintro e w2 ⟨⟨rfl, hok2⟩ | ⟨b, rfl, herr2⟩, hb2⟩
    · have HX : Hid (TreeOk fr ∧ Below w.heap.size w w2) := ⟨hok2, below_all HB1.out hb2⟩
      clear hok2 hb2
      go_wp2_with fail
      go_ret
      exact ⟨.inl ⟨rfl, HOK.out, HX.out.1⟩, HX.out.2⟩
    · have HX : Hid (TreeErr w2 fr (.iface 69 (.pointer (some ⟨b, 0, none⟩))) ∧ Below w.heap.size w w2) := ⟨herr2, below_all HB1.out hb2⟩
      clear herr2 hb2
      go_wp2_with fail
      go_ret
      exact ⟨.inr ⟨b, rfl, .inr ⟨HOK.out, HX.out.1⟩⟩, HX.out.2⟩
  · have HX : Hid (TreeErr w1 fs (.iface 69 (.pointer (some ⟨b, 0, none⟩))) ∧ Below w.heap.size w w1) := ⟨herr, hb1⟩
    clear herr hb1
    go_wp2_with fail
    go_ret
    exact ⟨.inr ⟨b, rfl, .inl HX.out.1⟩, HX.out.2⟩
end Go.Proofs.YtbhccdedcoajmabGreatDoor
namespace Go.Proofs.YtbhccdedcoajmabGreatDoor
open Go.RowKit

theorem digest_nil (vo : Option Addr) (cap : Nat) (w : World) :
    Calls Tryz.prog 67 #[.slice vo 0 cap] w fun e w' => e = .returned (.int .u64 (digestOf [])) ∧ w' = w := by
  go_enter Tryz.func67, Tryz.ntmps67
  go_wp2
  go_loop [3, 8] (fun v i => i = .int .i64 0 ∧ v = .int .u64 (digestOf [])) (fun _ _ => 0)
  case atStart => exact ⟨rfl, rfl⟩
  case round =>
    obtain ⟨rfl, rfl⟩ := hrel
    go_wp2
    go_ret
    exact ⟨rfl, rfl⟩
theorem digest_opt (vo : Option Addr) (b cap : Nat) (zs : List Int) (w : World) (hm : zs.length ≤ 70000) (hz : Bytes zs) (hD : DataAt w vo b cap zs) :
    Calls Tryz.prog 67 #[.slice vo zs.length cap] w fun e w' => e = .returned (.int .u64 (digestOf zs)) ∧ w' = w := by
  cases zs with
  | nil => exact digest_nil vo cap w
  | cons z r =>
    rw [hD.1 (by simp)]
    exact digest_any b 0 cap (z :: r) w hm hz hD.2.2

theorem Tryz.nilBytes (w : World) : (binOp BinOp.eql 25 (.slice none 0 0) (.slice none 0 0)).run Tryz.prog w = .ok (.bool true) w := by kernel_rfl
set_option maxHeartbeats 400000 in
theorem clone_nil (w : World) :
    Calls Tryz.prog 60 #[.slice none 0 0] w fun e w' => e = .returned (.slice none 0 0) ∧ w' = w := by
  have hnil := Tryz.nilBytes
  go_enter Tryz.func60, Tryz.ntmps60
  go_wp2_with fail
  go_ret
  exact ⟨rfl, rfl⟩

/-- a list of files in memory, to be read: no data may be nil -/
def Ag (w : World) (v : Value) (fs : List (ByteArray × ByteArray)) : Prop :=
  ∃ va cap, v = .slice va fs.length cap ∧ fs.length ≤ cap ∧ ∀ i (hi : i < fs.length), ∃ g vo b cp, va = some ⟨g, 0, none⟩ ∧ g < w.heap.size ∧ w.cell? ⟨g, i * 2, none⟩ = some (.string fs[i].1) ∧ w.cell? ⟨g, i * 2 + 1, none⟩ = some (.slice vo (nums fs[i].2).length cp) ∧
    (vo = none ∧ cp = 0 ∨ vo = some ⟨b, 0, none⟩) ∧ DataAt w vo b cp (nums fs[i].2)
theorem Ag.below {w w' : World} {v : Value} {fs : List (ByteArray × ByteArray)} (h : Ag w v fs) (hb : Below w.heap.size w w') : Ag w' v fs := by
  obtain ⟨va, cap, h1, h2, h3⟩ := h
  refine ⟨va, cap, h1, h2, fun i hi => ?_⟩
  obtain ⟨g, vo, b, cp, e, hg, c0, c1, ho, hD⟩ := h3 i hi
  exact ⟨g, vo, b, cp, e, Nat.lt_of_lt_of_le hg hb.size, (hb.cell (p := ⟨g, _, none⟩) hg).trans c0, (hb.cell (p := ⟨g, _, none⟩) hg).trans c1, ho, hD.below hb⟩
theorem Af.ag {w : World} {v : Value} {fs : List (ByteArray × ByteArray)} (h : Af w v fs) : Ag w v fs := by
  obtain ⟨va, cap, h1, h2, h3⟩ := h
  refine ⟨va, cap, h1, h2, fun i hi => ?_⟩
  obtain ⟨g, b, cp, e, hg, c0, c1, hb1, hcp, hc⟩ := h3 i hi
  exact ⟨g, _, b, cp, e, hg, c0, by rw [nums_length]; exact c1, .inr rfl, fun _ => rfl, by rw [nums_length]; exact hcp, hc⟩

/-- files in memory that a call has built: name, bytes, where these lie -/
def fcells (ps : List (ByteArray × ByteArray × Value)) : List Value := ps.flatMap fun p => [.string p.1, p.2.2]
theorem fcells_snoc (l : List (ByteArray × ByteArray × Value)) (p : ByteArray × ByteArray × Value) : fcells (l ++ [p]) = fcells l ++ [.string p.1, p.2.2] := by simp [fcells]
theorem fcells_at : ∀ (l : List (ByteArray × ByteArray × Value)) (i : Nat) (h : i < l.length), (fcells l)[i * 2]? = some (.string l[i].1) ∧ (fcells l)[i * 2 + 1]? = some l[i].2.2
  | p :: l, 0, _ => by simp [fcells]
  | p :: l, i + 1, h => by
    have := fcells_at l i (by simpa using h)
    have e : fcells (p :: l) = .string p.1 :: p.2.2 :: fcells l := by simp [fcells]
    rw [e, show (i + 1) * 2 = i * 2 + 1 + 1 by omega]
    simpa using this
structure FileRow (w : World) (base : Nat) (v : Value) (ps : List (ByteArray × ByteArray × Value)) : Prop where
  row : w.ownsRow base 37 2 v ps.length (fcells ps)
  data : ∀ p ∈ ps, w.ownsRow base 5 1 p.2.2 (nums p.2.1).length (u8s (nums p.2.1))
  apart : ps.Pairwise fun p q => ∀ g g', p.2.2.ownBlock = some g → q.2.2.ownBlock = some g' → g < g'
  off : ∀ p ∈ ps, ∀ g, p.2.2.ownBlock = some g → v.ownBlock ≠ some g
/-- the file of such an entry -/
def frF (p : ByteArray × ByteArray × Value) : ByteArray × ByteArray := (p.1, p.2.1)
theorem FileRow.nil (w : World) (base : Nat) : FileRow w base (.slice none 0 0) [] := ⟨World.ownsRow_nil _ _ _ _, by simp, List.Pairwise.nil, by simp⟩
theorem FileRow.below {w w' : World} {base : Nat} {v : Value} {ps : List (ByteArray × ByteArray × Value)} (h : FileRow w base v ps) (hb : Below w.heap.size w w') : FileRow w' base v ps :=
  ⟨ownsRow_below h.row hb, fun p hp => ownsRow_below (h.data p hp) hb, h.apart, h.off⟩
theorem FileRow.base {w : World} {base base' : Nat} {v : Value} {ps : List (ByteArray × ByteArray × Value)} (h : FileRow w base v ps) (hb : base' ≤ base) : FileRow w base' v ps :=
  ⟨ownsRow_base h.row hb, fun p hp => ownsRow_base (h.data p hp) hb, h.apart, h.off⟩
theorem FileRow.push {w w' : World} {base : Nat} {v v' : Value} {ps : List (ByteArray × ByteArray × Value)} (h : FileRow w base v ps) (nm d : ByteArray) (u : Value)
    (hu : w.ownsRow base 5 1 u (nums d).length (u8s (nums d))) (hnew : ∀ p ∈ ps, ∀ g g', p.2.2.ownBlock = some g → u.ownBlock = some g' → g < g') (hoff : ∀ g, u.ownBlock = some g → v.ownBlock ≠ some g)
    (hown : w'.ownsRow base 37 2 v' (ps.length + 1) (fcells ps ++ [.string nm, u])) (hg : w.grownBy w' v.ownBlock) (hloc : v'.ownBlock = v.ownBlock ∨ ∃ k, w.heap.size ≤ k ∧ v'.ownBlock = some k) : FileRow w' base v' (ps ++ [(nm, d, u)]) := by
  have hne : ∀ (u : Value) (n : Nat) (xs : List Value), w.ownsRow base 5 1 u n xs → (∀ g, u.ownBlock = some g → v.ownBlock ≠ some g) → ∀ g, u.ownBlock = some g → v'.ownBlock ≠ some g := by
    intro u n xs hu hoff g hgu
    rcases hloc with e | ⟨k, hk, e⟩
    · rw [e]; exact hoff g hgu
    · rw [e]; intro e'; have := (hu.lt g hgu).2; simp at e'; omega
  have hkeep : ∀ (u : Value) (n : Nat) (xs : List Value), w.ownsRow base 5 1 u n xs → (∀ g, u.ownBlock = some g → v.ownBlock ≠ some g) → w'.ownsRow base 5 1 u n xs := by
    intro u n xs hu hoff
    refine hu.kept hg ?_
    cases hv : u.ownBlock with
    | none => exact .inl rfl
    | some k => exact .inr (fun e => hoff k hv e.symm)
  refine ⟨?_, ?_, ?_, ?_⟩
  · rw [fcells_snoc, List.length_append]; exact hown
  · intro p hp
    rw [List.mem_append] at hp
    rcases hp with hp | hp
    · exact hkeep _ _ _ (h.data p hp) (h.off p hp)
    · simp at hp; subst hp; exact hkeep _ _ _ hu hoff
  · rw [List.pairwise_append]
    exact ⟨h.apart, by simp, fun p hp q hq => by simp at hq; subst hq; exact hnew p hp⟩
  · intro p hp
    rw [List.mem_append] at hp
    rcases hp with hp | hp
    · exact hne _ _ _ (h.data p hp) (h.off p hp)
    · simp at hp; subst hp; exact hne _ _ _ hu hoff
theorem own_dataAt {w : World} {base : Nat} {u : Value} {zs : List Int} (h : w.ownsRow base 5 1 u zs.length (u8s zs)) : ∃ vo b cp, u = .slice vo zs.length cp ∧ (vo = none ∧ cp = 0 ∨ vo = some ⟨b, 0, none⟩ ∧ base ≤ b ∧ b < w.heap.size) ∧ DataAt w vo b cp zs := by
  rcases own_shape h with ⟨hv, hz⟩ | ⟨g, cp, hv, hb, hlt, hcp, _⟩
  · refine ⟨none, 0, 0, by rw [hv, hz]; rfl, .inl ⟨rfl, rfl⟩, ?_⟩
    rw [hz]
    exact ⟨fun h => by simp at h, by simp, fun k h => by simp at h⟩
  · refine ⟨_, g, cp, hv, .inr ⟨rfl, hb, hlt⟩, fun _ => rfl, hcp, fun k hk => ?_⟩
    rw [hv] at h
    rw [Nat.zero_add]
    exact own_cells h k hk
theorem FileRow.ag {w : World} {base : Nat} {v : Value} {ps : List (ByteArray × ByteArray × Value)} (h : FileRow w base v ps) : Ag w v (ps.map frF) := by
  rcases h.row.2 with ⟨hv, h0⟩ | ⟨g, cap, cur, hv, hb, hg, h1, _⟩
  · exact ⟨none, 0, by rw [hv, List.length_map, h0], by rw [List.length_map]; omega, fun i hi => by rw [List.length_map] at hi; omega⟩
  · have hlt : g < w.heap.size := (Array.getElem?_eq_some_iff.1 hg).1
    refine ⟨some ⟨g, 0, none⟩, cap, by rw [List.length_map]; exact hv, by rw [List.length_map]; exact h1, fun i hi => ?_⟩
    rw [List.length_map] at hi
    rw [List.getElem_map]
    obtain ⟨vo, b, cp, hu, ho, hD⟩ := own_dataAt (h.data _ (List.getElem_mem hi))
    refine ⟨g, vo, b, cp, rfl, hlt, ?_, ?_, ho.imp id (fun h => h.1), hD⟩
    · have := h.row.cells (g := g) (by rw [hv]; rfl) (i * 2) _ (fcells_at ps i hi).1
      rw [add_at] at this; exact this
    · have := h.row.cells (g := g) (by rw [hv]; rfl) (i * 2 + 1) _ (fcells_at ps i hi).2
      rw [add_at] at this; rw [this, hu]; rfl

/-- the stretch of memory in which a list of files lies, and that it reads so in any world that is alike there -/
def Tr (w : World) (lo hi : Nat) (v : Value) (fs : List (ByteArray × ByteArray)) : Prop :=
  hi ≤ w.heap.size ∧ ∀ W : World, hi ≤ W.heap.size → (∀ k, lo ≤ k → k < hi → W.heap[k]? = w.heap[k]?) → Ag W v fs
theorem Tr.same {w w' : World} {lo hi : Nat} {v : Value} {fs : List (ByteArray × ByteArray)} (h : Tr w lo hi v fs) (hs : hi ≤ w'.heap.size) (he : ∀ k, lo ≤ k → k < hi → w'.heap[k]? = w.heap[k]?) : Tr w' lo hi v fs :=
  ⟨hs, fun W hW hk => h.2 W hW fun k h1 h2 => (hk k h1 h2).trans (he k h1 h2)⟩
theorem Tr.below {w w' : World} {lo hi : Nat} {v : Value} {fs : List (ByteArray × ByteArray)} (h : Tr w lo hi v fs) (hb : Below w.heap.size w w') : Tr w' lo hi v fs :=
  h.same (Nat.le_trans h.1 hb.size) fun k _ h2 => hb.block k (Nat.lt_of_lt_of_le h2 h.1)
theorem Tr.grown {w w' : World} {lo hi : Nat} {v : Value} {fs : List (ByteArray × ByteArray)} {row : Option Nat} (h : Tr w lo hi v fs) (hg : w.grownBy w' row) (hr : ∀ k, row = some k → k < lo ∨ hi ≤ k) : Tr w' lo hi v fs :=
  h.same (Nat.le_trans h.1 hg.size) fun k h1 h2 => hg.block k (Nat.lt_of_lt_of_le h2 h.1) (fun e => by have := hr k e.symm; omega)
theorem Tr.ag {w : World} {lo hi : Nat} {v : Value} {fs : List (ByteArray × ByteArray)} (h : Tr w lo hi v fs) : Ag w v fs := h.2 w h.1 fun _ _ _ => rfl
theorem Tr.wide {w : World} {lo hi lo' hi' : Nat} {v : Value} {fs : List (ByteArray × ByteArray)} (h : Tr w lo hi v fs) (h1 : lo' ≤ lo) (h2 : hi ≤ hi') (h3 : hi' ≤ w.heap.size) : Tr w lo' hi' v fs :=
  ⟨h3, fun W hW hk => h.2 W (by omega) fun k a b => hk k (by omega) (by omega)⟩
theorem own_same {w W : World} {base : Nat} {e : TypeId} {size : Nat} {v : Value} {n : Nat} {xs : List Value} (h : w.ownsRow base e size v n xs) (hs : ∀ g, v.ownBlock = some g → W.heap[g]? = w.heap[g]?) : W.ownsRow base e size v n xs := by
  refine ⟨h.1, ?_⟩
  rcases h.2 with h | ⟨g, cap, cur, h1, h2, h3, h4⟩
  · exact .inl h
  · exact .inr ⟨g, cap, cur, h1, h2, (hs g (by rw [h1]; rfl)).trans h3, h4⟩
theorem FileRow.tr {w : World} {base hi : Nat} {v : Value} {ps : List (ByteArray × ByteArray × Value)} (h : FileRow w base v ps) (hh : hi ≤ w.heap.size) (h1 : ∀ g, v.ownBlock = some g → g < hi) (h2 : ∀ p ∈ ps, ∀ g, p.2.2.ownBlock = some g → g < hi) : Tr w base hi v (ps.map frF) := by
  refine ⟨hh, fun W hW hk => ?_⟩
  have : FileRow W base v ps := ⟨own_same h.row fun g hg => hk g (h.row.lt g hg).1 (h1 g hg), fun p hp => own_same (h.data p hp) fun g hg => hk g ((h.data p hp).lt g hg).1 (h2 p hp g hg), h.apart, h.off⟩
  exact this.ag
theorem FileRow.tr' {w : World} {base : Nat} {v : Value} {ps : List (ByteArray × ByteArray × Value)} (h : FileRow w base v ps) : Tr w base w.heap.size v (ps.map frF) :=
  h.tr (Nat.le_refl _) (fun g hg => (h.row.lt g hg).2) (fun p hp g hg => ((h.data p hp).lt g hg).2)
end Go.Proofs.YtbhccdedcoajmabGreatDoor

import Derived.Test.YtbhccdedcoajmabDoorKTree
import Derived.Test.YtbhccdedcoajmabDoorPBatchM
import Derived.Test.YtbhccdedcoajmabDoorPApply
import Derived.Test.YtbhccdedcoajmabDoorBulk
import Derived.Deep.QuietTactic
import Derived.BigQuiet
namespace Go.Proofs.YtbhccdedcoajmabDoor
open Go.RowKit

theorem rise_list : ∀ (fs : List (ByteArray × ByteArray)) (first : Bool) (last : List Int), (∀ p, fs.head? = some p → (first || ltL last (nums p.1)) = true) → (∀ i (h : i + 1 < fs.length), ltL (nums fs[i].1) (nums fs[i + 1].1) = true) → Rise first last (fs.map filOf)
  | [], _, _, _, _ => trivial
  | p :: fs, first, last, h1, h2 => by
    refine ⟨h1 p rfl, rise_list fs false (nums p.1) (fun q hq => ?_) (fun i h => h2 (i + 1) (by simpa using h))⟩
    cases fs with
    | nil => simp at hq
    | cons x r =>
      simp at hq
      subst hq
      have := h2 0 (by simp)
      simpa using this
theorem tree_rise {fs : List (ByteArray × ByteArray)} (h : TreeOk fs) : Rise true [] (fs.map filOf) := by
  refine rise_list fs true [] (fun _ _ => by simp) (fun i hi => ?_)
  obtain ⟨_, _, h2, _⟩ := h (i + 1) hi
  exact h2 (by omega)
theorem tree_fil {fs : List (ByteArray × ByteArray)} (h : TreeOk fs) : ∀ f ∈ fs.map filOf, FilOk f ∧ Bytes f.data := by
  intro f hf
  obtain ⟨p, hp, rfl⟩ := List.mem_map.1 hf
  obtain ⟨i, hi, rfl⟩ := List.getElem_of_mem hp
  obtain ⟨_, h1, _, h3, _⟩ := h i hi
  exact ⟨⟨h1, by rw [show (filOf fs[i]).data = nums fs[i].2 from rfl, nums_length]; exact h3, (digestOf_fits _).1, (digestOf_fits _).2⟩, nums_bytes _⟩
theorem tree_apart {fs : List (ByteArray × ByteArray)} (h : TreeOk fs) : (fs.map filOf).Pairwise (fun f g => f.name ≠ g.name) := rise_apart _ _ _ (tree_rise h)
theorem read_told {fs fr : List (ByteArray × ByteArray)} {B : Nat} (hB1 : 1 ≤ B) (hB2 : B ≤ 64) (hs : TreeOk fs) (hr : TreeOk fr) :
    readL (recordL (fs.map filOf) (fr.map filOf) B) = some ⟨B, (fr.map filOf).map entOf, (fs.map filOf).map fun f => (entOf f, diffOf (findL (fr.map filOf) f.name) f.data B)⟩ :=
  read_record hB1 hB2 (tree_apart hr) (tree_fil hs) (fun f hf => (tree_fil hr f hf).1) (tree_rise hs) (tree_rise hr) (by rw [List.length_map]; exact hs.len) (by rw [List.length_map]; exact hr.len)
theorem find_300 {fr : List (ByteArray × ByteArray)} (hr : TreeOk fr) (nm : ByteArray) : ((foundOf fr nm).getD ⟨#[]⟩).size ≤ 300 := by
  unfold foundOf
  cases h : fr.find? fun q => decide (nums q.1 = nums nm) with
  | none => exact Nat.zero_le _
  | some q => exact (hr.sizes q (List.mem_of_find?_eq_some h)).2
theorem target_ok {fs fr : List (ByteArray × ByteArray)} {B : Nat} (hB1 : 1 ≤ B) (hs : TreeOk fs) (hr : TreeOk fr) : ∀ x ∈ fs.map filOf, (targetL (fr.map filOf) B x).length ≤ 1525 ∧ Bytes (targetL (fr.map filOf) B x) := by
  intro x hx
  obtain ⟨p, hp, rfl⟩ := List.mem_map.1 hx
  refine targetL_ok hB1 (by rw [show (filOf p).name = nums p.1 from rfl, nums_length]; exact (hs.sizes p hp).1) (nums_bytes _) (by rw [show (filOf p).data = nums p.2 from rfl, nums_length]; exact (hs.sizes p hp).2) (nums_bytes _) ?_
  rw [show (filOf p).name = nums p.1 from rfl, found_findL, nums_length]
  exact find_300 hr _
theorem entry_ok {fr : List (ByteArray × ByteArray)} (hr : TreeOk fr) : ∀ x ∈ fr.map filOf, (entryL x).length ≤ 23 ∧ Bytes (entryL x) := by
  intro x hx
  obtain ⟨p, hp, rfl⟩ := List.mem_map.1 hx
  have h : (filOf p).name.length ≤ 12 := by rw [show (filOf p).name = nums p.1 from rfl, nums_length]; exact (hr.sizes p hp).1
  exact ⟨entryL_len h, bytes_entry h (nums_bytes _)⟩
theorem record_bytes {fs fr : List (ByteArray × ByteArray)} {B : Nat} (hB1 : 1 ≤ B) (hB2 : B ≤ 64) (hs : TreeOk fs) (hr : TreeOk fr) : Bytes (recordL (fs.map filOf) (fr.map filOf) B) ∧ (recordL (fs.map filOf) (fr.map filOf) B).length ≤ 14000 ∧ 0 < (recordL (fs.map filOf) (fr.map filOf) B).length := by
  have h8 := hs.len
  have g8 := hr.len
  refine ⟨?_, ?_, ?_⟩
  · unfold recordL bodyL
    refine bytes_app (bytes_cons (by omega) (bytes_cons (by omega) (bytes_cons (by omega) (bytes_cons (by omega) (bytes_cons (by rw [List.length_map]; omega) (bytes_app (bytes_flat fun x hx => (entry_ok hr x hx).2) (bytes_cons (by rw [List.length_map]; omega) (bytes_flat fun x hx => (target_ok hB1 hs hr x hx).2)))))))) (putN_bytes _ _)
  · have h1 := flat_len (f := entryL) (c := 23) (fr.map filOf) (fun x hx => (entry_ok hr x hx).1)
    have h2 := flat_len (f := targetL (fr.map filOf) B) (c := 1525) (fs.map filOf) (fun x hx => (target_ok hB1 hs hr x hx).1)
    rw [List.length_map] at h1 h2
    unfold recordL bodyL
    simp only [List.length_append, List.length_cons, putN_length]
    omega
  · unfold recordL bodyL
    simp

set_option maxHeartbeats 400000 in
theorem mDigest_any (b cap : Nat) (zs : List Int) (w : World) (hm : zs.length ≤ 70000) (hz : Bytes zs) (hc : ∀ k (h : k < zs.length), w.cell? ⟨b, 0 + k, none⟩ = some (.int .u8 zs[k])) :
    Calls Tryd.prog 8 #[.slice (some ⟨b, 0, none⟩) zs.length cap] w fun e w' => e = .returned (.int .u64 (digestOf zs)) ∧ w' = w := by
  have HD := hide (digest_any b 0 cap zs w hm hz hc)
  clear hc hz
  go_enter Tryd.func8, Tryd.ntmps8
  go_wp2_with fail
  refine HD.out.mono ?_
  rintro e w' ⟨rfl, rfl⟩
  go_wp2_with fail
  go_ret
  exact ⟨rfl, rfl⟩

/-- the files' list that is looked through to its k-th -/
theorem found_snoc {fr : List (ByteArray × ByteArray)} {nm : ByteArray} {k : Nat} (hk : k < fr.length) (hp : fr.Pairwise fun a b => nums a.1 ≠ nums b.1) :
    (nums fr[k].1 = nums nm → foundOf (fr.take (k + 1)) nm = some fr[k].2) ∧ (nums fr[k].1 ≠ nums nm → foundOf (fr.take (k + 1)) nm = foundOf (fr.take k) nm) := by
  have e : fr.take (k + 1) = fr.take k ++ [fr[k]] := List.take_succ_eq_append_getElem hk
  refine ⟨fun h => ?_, fun h => ?_⟩
  · have hno : (fr.take k).find? (fun p => decide (nums p.1 = nums nm)) = none := by
      rw [List.find?_eq_none]
      intro p hp'
      obtain ⟨i, hi, rfl⟩ := List.getElem_of_mem hp'
      rw [List.getElem_take]
      rw [List.length_take] at hi
      have := List.pairwise_iff_getElem.1 hp i k (by omega) hk (by omega)
      simp only [decide_eq_true_eq]
      exact fun e2 => this (e2.trans h.symm)
    unfold foundOf
    rw [e, List.find?_append, hno]
    simp [h]
  · unfold foundOf
    rw [e, List.find?_append]
    simp [h]
end Go.Proofs.YtbhccdedcoajmabDoor
namespace Go.Proofs.YtbhccdedcoajmabDoor
open Go.RowKit

theorem map_at {α β γ : Type} {f : α → γ} {g : β → γ} {a : List α} {b : List β} (h : a.map f = b.map g) {i : Nat} (ha : i < a.length) (hb : i < b.length) : f a[i] = g b[i] := by
  have := congrArg (fun l => l[i]?) h
  simpa [List.getElem?_map, List.getElem?_eq_getElem ha, List.getElem?_eq_getElem hb] using this

set_option maxRecDepth 10000 in
set_option maxHeartbeats 1000000 in
theorem walk_told (v0 : Value) (s0 : List ByteArray) (bits : Int) (v1 : Value) (s1 : List ByteArray) (older blk : Int) (w : World) (_he : ErrT w)
    (h0 : Sl w v0 s0) (l0 : s0.length ≤ maxLen) (z0 : ∀ s ∈ s0, s.size ≤ maxLen) (hbits : (Lit.int .i64 bits).wf = true) (h1 : Sl w v1 s1) (l1 : s1.length ≤ maxLen) (z1 : ∀ s ∈ s1, s.size ≤ maxLen) (holder : (Lit.int .i64 older).wf = true) (hblk : (Lit.int .i64 blk).wf = true) :
    Calls Tryd.prog 3 #[v0, .int .i64 bits, v1, .int .i64 older, .int .i64 blk] w fun e w' => e = .returned (.bool true) ∧ Below w.heap.size w w' := by
  have HT1 := hide (ktree_any v0 s0 bits w h0 l0 z0 hbits)
  have HT2 : Hid (∀ W, Below w.heap.size w W → Calls Tryd.prog 4 #[v1, .int .i64 older] W fun e w' => ∃ u fs, e = .returned u ∧ Af w' u fs ∧ TreeOk fs ∧ Below W.heap.size W w') := fun W hb => ktree_any v1 s1 older W (h1.below hb) l1 z1 holder
  obtain ⟨pk, hpk, hpick⟩ := pick_ex blk hblk
  have HPK := hide hpick
  clear h0 l0 z0 hbits h1 l1 z1 holder hblk hpick _he
  go_enter Tryd.func3, Tryd.ntmps3
  go_wp2_with fail
  refine HT1.out.mono ?_
  rintro e w1 ⟨u1, fs, rfl, hA1, hTs, hb1⟩
  have HA1 := hide hA1
  have HTS := hide hTs
  have HB1 := hide hb1
  clear hA1 hTs hb1 HT1
  go_wp2_with fail
  refine (HT2.out _ HB1.out).mono ?_
  rintro e w2 ⟨u2, fr, rfl, hA2, hTr, hb2⟩
  have HA1b := hide (HA1.out.below hb2)
  have HA2 := hide hA2
  have HTR := hide hTr
  have HB2 : Hid (Below w.heap.size w w2) := below_all HB1.out hb2
  clear hA2 hTr hb2 HT2 HA1 HB1
  go_wp2_with fail
  refine (HPK.out _).mono ?_
  rintro e w3 ⟨rfl, hw3⟩
  obtain rfl := hw3.symm
  obtain ⟨B, hB⟩ : ∃ B : Nat, (1 : Int) + (pk : Int) = (B : Int) := ⟨1 + pk, by omega⟩
  have hB1 : 1 ≤ B := by omega
  have hB2 : B ≤ 64 := by omega
  have h8 := HTS.out.len
  have g8 := HTR.out.len
  have hzs : ∀ p ∈ fs, p.1.size ≤ 70000 ∧ p.2.size ≤ 70000 := fun p hp => by have := HTS.out.sizes p hp; omega
  have hzr : ∀ p ∈ fr, p.1.size ≤ 70000 ∧ p.2.size ≤ 70000 := fun p hp => by have := HTR.out.sizes p hp; omega
  have HREC := hide (pRecord_ok u1 u2 fs fr B w2 hB1 hB2 (by omega) (by omega) hzs hzr HA1b.out HA2.out HTS.out HTR.out)
  clear hzs hzr HPK
  go_wp2_with fail
  refine HREC.out.mono ?_
  rintro e w4 ⟨rv, rfl, ho4, hb4⟩
  obtain ⟨hrb, hrl, hr0⟩ := record_bytes hB1 hB2 HTS.out HTR.out
  obtain ⟨g, rc, rfl, _, hgl, hrc, _⟩ : ∃ g cap, rv = .slice (some ⟨g, 0, none⟩) (recordL (fs.map filOf) (fr.map filOf) B).length cap ∧ w2.heap.size ≤ g ∧ g < w4.heap.size ∧ (recordL (fs.map filOf) (fr.map filOf) B).length ≤ cap ∧ cap ≤ maxLen := by
    rcases own_shape ho4 with ⟨_, h⟩ | h
    · rw [h] at hr0; simp at hr0
    · exact h
  obtain ⟨s, hsn, hss⟩ : ∃ s : ByteArray, nums s = recordL (fs.map filOf) (fr.map filOf) B ∧ s.size = (recordL (fs.map filOf) (fr.map filOf) B).length := ⟨bytesOf _, nums_bytesOf hrb, bytesOf_size _⟩
  have hread : readL (nums s) = some ⟨B, (fr.map filOf).map entOf, (fs.map filOf).map fun f => (entOf f, diffOf (findL (fr.map filOf) f.name) f.data B)⟩ := by rw [hsn]; exact read_told hB1 hB2 HTS.out HTR.out
  have hcs : ∀ k (h : k < (nums s).length), w4.cell? ⟨g, 0 + k, none⟩ = some (.int .u8 (nums s)[k]) := by
    intro k h
    have h' : k < (recordL (fs.map filOf) (fr.map filOf) B).length := by rw [← hsn]; exact h
    rw [Nat.zero_add, own_cells ho4 k h']
    simp only [hsn]
  rw [← hss]
  have HRD := hide (pRead_ok g rc s B _ _ w4 (by omega) (by omega) hgl hcs hread)
  have HA14 := hide (HA1b.out.below hb4)
  have HA24 := hide (HA2.out.below hb4)
  have HB4 : Hid (Below w.heap.size w w4) := below_all HB2.out hb4
  clear ho4 hb4 hrb hrl hr0 hgl hrc hsn hss hread hcs HREC HA1b HA2 HB2
  go_wp2_with fail
  refine HRD.out.mono ?_
  rintro e w5 ⟨bv, tv, rfl, hbat, hb5⟩
  obtain ⟨es, xs, hoe, hesm, hel, hox, hxl, hxok, _, _, hxm⟩ := hbat
  have hen : es.length = fr.length := by have := congrArg List.length hesm; simpa using this
  have hxn : xs.length = fs.length := by have := congrArg List.length hxm; simpa using this
  obtain ⟨ea, ec, rfl, hec, hecell⟩ := El_of_row hoe
  obtain ⟨ta, tc, rfl, htc, htcell⟩ : ∃ ta tc, tv = .slice ta xs.length tc ∧ xs.length ≤ tc ∧ ∀ i (hi : i < xs.length), ∃ gt, ta = some ⟨gt, 0, none⟩ ∧ gt < w5.heap.size ∧ w5.cell? ⟨gt, i * 4, none⟩ = some (.string xs[i].ent.1) ∧ w5.cell? ⟨gt, i * 4 + 2, none⟩ = some (.int .u64 xs[i].ent.2.2) ∧ w5.cell? ⟨gt, i * 4 + 3, none⟩ = some xs[i].v := by
    rcases hox.2 with ⟨hv, h0⟩ | ⟨gt, cap, cur, hv, _, hgt, h1, _⟩
    · exact ⟨none, 0, by rw [hv, h0], by omega, fun i hi => by omega⟩
    · refine ⟨some ⟨gt, 0, none⟩, cap, hv, h1, fun i hi => ⟨gt, rfl, (Array.getElem?_eq_some_iff.1 hgt).1, ?_, ?_, ?_⟩⟩
      · have := hox.cells (g := gt) (by rw [hv]; rfl) (i * 4) _ (tgCells_at xs i hi).1
        rw [add_at] at this; exact this
      · have := hox.cells (g := gt) (by rw [hv]; rfl) (i * 4 + 2) _ (tgCells_at xs i hi).2.2.1
        rw [add_at] at this; exact this
      · have := hox.cells (g := gt) (by rw [hv]; rfl) (i * 4 + 3) _ (tgCells_at xs i hi).2.2.2
        rw [add_at] at this; exact this
  obtain ⟨ra, rcap, rfl, hrcap, hrcell⟩ := HA24.out.below hb5
  obtain ⟨sa, scap, rfl, hscap, hscell⟩ := HA14.out.below hb5
  have HDIS : Hid (fr.Pairwise fun a b => nums a.1 ≠ nums b.1) := by
    have := tree_apart HTR.out
    rw [List.pairwise_map] at this
    exact this
  -- the reference's files against the basis
  have HR : Hid (∀ k, k < fr.length → ∃ (gr b cp ge : Nat) (a : ByteArray) (zs : List Int), ra = some ⟨gr, 0, none⟩ ∧ ea = some ⟨ge, 0, none⟩ ∧ gr < w5.heap.size ∧ ge < w5.heap.size ∧ b < w5.heap.size ∧ w5.cell? ⟨gr, k * 2, none⟩ = some (.string a) ∧ w5.cell? ⟨gr, k * 2 + 1, none⟩ = some (.slice (some ⟨b, 0, none⟩) zs.length cp) ∧ w5.cell? ⟨ge, k * 3, none⟩ = some (.string a) ∧ w5.cell? ⟨ge, k * 3 + 1, none⟩ = some (.int .i64 zs.length) ∧ w5.cell? ⟨ge, k * 3 + 2, none⟩ = some (.int .u64 (digestOf zs)) ∧ zs.length ≤ cp ∧ zs.length ≤ 300 ∧ Bytes zs ∧ (∀ i (h : i < zs.length), w5.cell? ⟨b, 0 + i, none⟩ = some (.int .u8 zs[i])) ∧ (∃ dt : ByteArray, zs = nums dt ∧ ∀ nm : ByteArray, (nums a = nums nm → foundOf (fr.take (k + 1)) nm = some dt) ∧ (nums a ≠ nums nm → foundOf (fr.take (k + 1)) nm = foundOf (fr.take k) nm))) := by
    intro k hk
    obtain ⟨gr, b, cp, e1, hg1, c0, c1, hb, hcp, hc⟩ := hrcell k hk
    obtain ⟨ge, e2, hg2, d0, d1, d2⟩ := hecell k (by omega)
    have hev := map_at (f := entV) (g := fun p => entOf (filOf p)) (by rw [hesm, List.map_map]; rfl) (show k < es.length by omega) hk
    have n1 : es[k].1 = fr[k].1 := nums_inj (congrArg EntL.name hev)
    have n2 : ((es[k].2.1 : Nat) : Int) = ((nums fr[k].2).length : Int) := congrArg EntL.size hev
    have n3 : es[k].2.2 = digestOf (nums fr[k].2) := congrArg EntL.digest hev
    rw [n1] at d0
    rw [n2] at d1
    rw [n3] at d2
    exact ⟨gr, b, cp, ge, fr[k].1, nums fr[k].2, e1, e2, hg1, hg2, hb, c0, by rw [nums_length]; exact c1, d0, d1, d2, by rw [nums_length]; exact hcp, by rw [nums_length]; exact (HTR.out.sizes _ (List.getElem_mem hk)).2, nums_bytes _, hc, fr[k].2, rfl, fun nm => found_snoc hk HDIS.out⟩
  -- the source's files against the targets
  have HS : Hid (∀ k, k < fs.length → ∃ (gs b cp gt : Nat) (a : ByteArray) (ds : List Int) (x : Tg), sa = some ⟨gs, 0, none⟩ ∧ ta = some ⟨gt, 0, none⟩ ∧ gs < w5.heap.size ∧ gt < w5.heap.size ∧ b < w5.heap.size ∧ w5.cell? ⟨gs, k * 2, none⟩ = some (.string a) ∧ w5.cell? ⟨gs, k * 2 + 1, none⟩ = some (.slice (some ⟨b, 0, none⟩) ds.length cp) ∧ w5.cell? ⟨gt, k * 4, none⟩ = some (.string a) ∧ w5.cell? ⟨gt, k * 4 + 2, none⟩ = some (.int .u64 (digestOf ds)) ∧ w5.cell? ⟨gt, k * 4 + 3, none⟩ = some x.v ∧ ds.length ≤ cp ∧ ds.length ≤ 300 ∧ Bytes ds ∧ (∀ i (h : i < ds.length), w5.cell? ⟨b, 0 + i, none⟩ = some (.int .u8 ds[i])) ∧ TgOk w5 w4.heap.size x ∧ x.ps.map Prod.fst = diffOf (nums ((foundOf fr a).getD ⟨#[]⟩)) ds B) := by
    intro k hk
    obtain ⟨gs, b, cp, e1, hg1, c0, c1, hb, hcp, hc⟩ := hscell k hk
    obtain ⟨gt, e2, hg2, d0, d2, d3⟩ := htcell k (by omega)
    have hev := map_at (f := tgV) (g := fun p => (entOf (filOf p), diffOf (findL (fr.map filOf) (filOf p).name) (filOf p).data B)) (by rw [hxm, List.map_map]; rfl) (show k < xs.length by omega) hk
    have n1 : xs[k].ent.1 = fs[k].1 := nums_inj (congrArg (fun q => q.1.name) hev)
    have n3 : xs[k].ent.2.2 = digestOf (nums fs[k].2) := congrArg (fun q => q.1.digest) hev
    have n4 : xs[k].ps.map Prod.fst = diffOf (findL (fr.map filOf) (nums fs[k].1)) (nums fs[k].2) B := congrArg Prod.snd hev
    rw [n1] at d0
    rw [n3] at d2
    rw [found_findL] at n4
    exact ⟨gs, b, cp, gt, fs[k].1, nums fs[k].2, xs[k], e1, e2, hg1, hg2, hb, c0, by rw [nums_length]; exact c1, d0, d2, d3, by rw [nums_length]; exact hcp, by rw [nums_length]; exact (HTS.out.sizes _ (List.getElem_mem hk)).2, nums_bytes _, hc, hxok _ (List.getElem_mem (show k < xs.length by omega)), n4⟩
  have HB5 : Hid (Below w.heap.size w w5) := below_all HB4.out hb5
  have HF3 := hide (fun nm => find_300 HTR.out nm)
  clear hoe hesm hox hxok hxm hecell htcell hrcell hscell hb5 HRD HA14 HA24 HB4
  rw [hen] at hec
  rw [hxn] at htc
  rw [hen, hxn]
  clear hen hxn hel hxl
  obtain ⟨ox, hox⟩ : ∃ o, o = Obj.cells #[.int .i64 (B : Int), .slice ea fr.length ec, .slice ta fs.length tc] 33 := ⟨_, rfl⟩
  have hx0 : (w5.alloc ox).cell? ⟨w5.heap.size, 0, none⟩ = some (.int .i64 (B : Int)) := by rw [hox]; exact cell_new rfl rfl
  have hx1 : (w5.alloc ox).cell? ⟨w5.heap.size, 1, none⟩ = some (.slice ea fr.length ec) := by rw [hox]; exact cell_new rfl rfl
  have hx2 : (w5.alloc ox).cell? ⟨w5.heap.size, 2, none⟩ = some (.slice ta fs.length tc) := by rw [hox]; exact cell_new rfl rfl
  have HBX : Hid (Below w5.heap.size w5 (w5.alloc ox)) := (Below.refl _ _).alloc (Nat.le_refl _) _
  rw [hox] at hx0 hx1 hx2 HBX
  clear hox
  have HTA : Hid (fr.take fr.length = fr) := List.take_of_length_le (Nat.le_refl _)
  generalize hNR : fr.length = nr at *
  generalize hNS : fs.length = ns at *
  have HNR := hide hNR
  clear hNR hNS HTS
  go_wp2_with fail
  generalize hWA : w5.alloc (.cells #[.int .i64 (B : Int), .slice ea nr ec, .slice ta ns tc] 33) = wa at *
  clear hWA
  have hxb : w5.heap.size < wa.heap.size := World.block_lt_of_cell? wa _ hx0
  have HX1 := hide hx1
  have HX2 := hide hx2
  clear hx0 hx1 hx2
  go_loopw [19] (fun i wr => ∃ k : Nat, k ≤ nr ∧ i = .int .i64 k ∧ Hid (Below wa.heap.size wa wr)) (fun i _ => nr - (intOf i).toNat)
  case atStart => exact ⟨0, Nat.zero_le _, rfl, Below.refl _ _⟩
  case round =>
    obtain ⟨k, hk, rfl, HBr⟩ := hrel
    have HW5 : Hid (Below w5.heap.size w5 wr) := below_all HBX.out HBr.out
    by_cases hlt : k < nr
    · obtain ⟨gr, b, cp, ge, a, zs, rfl, rfl, hg1, hg2, hb, c0, c1, d0, d1, d2, hcp, hz3, hzb, hc, _⟩ := HR.out k hlt
      have e0 := (HW5.out.cell (p := ⟨gr, k * 2, none⟩) hg1).trans c0
      have e1 := (HW5.out.cell (p := ⟨gr, k * 2 + 1, none⟩) hg1).trans c1
      have f0 := (HW5.out.cell (p := ⟨ge, k * 3, none⟩) hg2).trans d0
      have f1 := (HW5.out.cell (p := ⟨ge, k * 3 + 1, none⟩) hg2).trans d1
      have f2 := (HW5.out.cell (p := ⟨ge, k * 3 + 2, none⟩) hg2).trans d2
      have hxx := (HBr.out.cell (p := ⟨w5.heap.size, 1, none⟩) hxb).trans HX1.out
      have HDG := hide (mDigest_any b cp zs wr (by omega) hzb (cells_below hc HW5.out))
      have hne : (a.toList != a.toList) = false := by simp
      have heq : (a.toList == a.toList) = true := by simp
      clear c0 c1 d0 d1 d2 hc hzb
      generalize digestOf zs = D at *
      generalize zs.length = m at *
      go_wp2_with fail
      refine HDG.out.mono ?_
      rintro e w6 ⟨rfl, hw6⟩
      obtain rfl := hw6.symm
      go_wp2_with fail
      go_quiet (fail)
      go_wp2_with fail
      go_roundw
      case rel => exact ⟨k + 1, by omega, by go_num, below_drewN HBr.out _⟩
      case measure => simp [intOf]; omega
    · clear hk
      go_wp2_with fail
      go_loopw [21] (fun i wr => ∃ k : Nat, k ≤ ns ∧ i = .int .i64 k ∧ Hid (Below wa.heap.size wa wr)) (fun i _ => ns - (intOf i).toNat)
      case atStart => exact ⟨0, Nat.zero_le _, rfl, HBr.out⟩
      case round =>
        clear HBr HW5 hlt
        obtain ⟨i, hi, rfl, HBq⟩ := hrel
        have HW5 : Hid (Below w5.heap.size w5 wr) := below_all HBX.out HBq.out
        by_cases hlt : i < ns
        · obtain ⟨gs, b, cp, gt, a, ds, x, rfl, rfl, hg1, hg2, hb, c0, c1, d0, d2, d3, hcp, hz3, hzb, hc, hTG, hps⟩ := HS.out i hlt
          have HGS : Hid (∀ W, Below w5.heap.size w5 W → W.cell? ⟨gs, i * 2, none⟩ = some (.string a)) := fun W hW => (hW.cell (p := ⟨gs, i * 2, none⟩) hg1).trans c0
          go_wp2_with fail
          go_loopw [22, 23] (fun v22 v23 wq => ∃ (j b2 cp2 : Nat) (va : Option Addr), j ≤ nr ∧ v23 = .int .i64 j ∧ v22 = .slice va (nums ((foundOf (fr.take j) a).getD ⟨#[]⟩)).length cp2 ∧ Hid (DataAt w5 va b2 cp2 (nums ((foundOf (fr.take j) a).getD ⟨#[]⟩))) ∧ Hid (Below wa.heap.size wa wq)) (fun _ v23 _ => nr - (intOf v23).toNat)
          case atStart =>
            refine ⟨0, 0, 0, none, Nat.zero_le _, rfl, ?_, ?_, HBq.out⟩
            · rfl
            · exact ⟨fun h => by simp [foundOf, nums_empty] at h, by simp [foundOf, nums_empty], fun k h => by simp [foundOf, nums_empty] at h⟩
          case round =>
            clear HBq HW5
            obtain ⟨j, b2, cp2, va, hj, rfl, rfl, HDA, HBy⟩ := hrel
            have HW6 : Hid (Below w5.heap.size w5 wr) := below_all HBX.out HBy.out
            by_cases hjt : j < nr
            · obtain ⟨gr, br, cr, ge, ar, zr, rfl, _, hgr, _, _, r0, r1, _, _, _, hcr, _, _, hcz, dt, rfl, hfd⟩ := HR.out j hjt
              have y0 := (HW6.out.cell (p := ⟨gr, j * 2, none⟩) hgr).trans r0
              have y1 := (HW6.out.cell (p := ⟨gr, j * 2 + 1, none⟩) hgr).trans r1
              have x0 := HGS.out _ HW6.out
              have hte := text_eq ar a
              have HFD := hide (hfd a)
              have HCZ : Hid (DataAt w5 (some ⟨br, 0, none⟩) br cr (nums dt)) := ⟨fun _ => rfl, hcr, hcz⟩
              clear r0 r1 hfd hcz
              by_cases hh : nums ar = nums a
              · rw [decide_eq_true hh] at hte
                have HH := hide (HFD.out.1 hh)
                clear hh HFD
                go_wp2_with fail
                go_quiet (fail)
                go_wp2_with fail
                go_roundw
                case rel => exact ⟨j + 1, br, cr, some ⟨br, 0, none⟩, by omega, by go_num, by rw [HH.out]; rfl, by rw [HH.out]; exact HCZ.out, below_drewN HBy.out _⟩
                case measure => simp [intOf]; omega
              · rw [decide_eq_false hh] at hte
                have HH := hide (HFD.out.2 hh)
                clear hh HFD
                go_wp2_with fail
                go_quiet (fail)
                go_wp2_with fail
                go_roundw
                case rel => exact ⟨j + 1, b2, cp2, va, by omega, by go_num, by rw [HH.out], by rw [HH.out]; exact HDA.out, below_drewN HBy.out _⟩
                case measure => simp [intOf]; omega
            · have hjn : j = nr := by omega
              subst hjn
              have HDA2 : Hid (DataAt wr va b2 cp2 (nums ((foundOf fr a).getD ⟨#[]⟩))) := by
                have := HDA.out
                rw [HTA.out] at this
                exact this.below HW6.out
              have e0 := (HW6.out.cell (p := ⟨gs, i * 2, none⟩) hg1).trans c0
              have e1 := (HW6.out.cell (p := ⟨gs, i * 2 + 1, none⟩) hg1).trans c1
              have f0 := (HW6.out.cell (p := ⟨gt, i * 4, none⟩) hg2).trans d0
              have f2 := (HW6.out.cell (p := ⟨gt, i * 4 + 2, none⟩) hg2).trans d2
              have f3 := (HW6.out.cell (p := ⟨gt, i * 4 + 3, none⟩) hg2).trans d3
              have hxx := (HBy.out.cell (p := ⟨w5.heap.size, 2, none⟩) hxb).trans HX2.out
              have hTG2 := hTG.below HW6.out
              have hf300 := HF3.out a
              have HAP := hide (pApply_opt va b2 0 cp2 B (nums ((foundOf fr a).getD ⟨#[]⟩)) HDA2.out.1 x.lo x.v x.ps wr hB1 hB2 (by rw [nums_length]; exact hf300) HDA2.out.2.1 HDA2.out.2.2 hTG2.row (by have := hTG2.len; omega) (fun p hp => by
                obtain ⟨q1, q2, q3, q4, q5, q6⟩ := hTG2.small p hp
                exact ⟨q1, q2, by constructor <;> omega, by constructor <;> omega⟩) (by rw [hps]; exact apply_diff (by omega) hz3))
              rw [HTA.out]
              obtain ⟨xa, xn, xc, hxv⟩ := row_slice hTG2.row.row
              rw [hxv] at f3 HAP
              have HBD := hide (fun W (hW : Below w5.heap.size w5 W) => mDigest_any b cp ds W (by omega) hzb (cells_below hc hW))
              have HCV : Hid (∀ W, Below w5.heap.size w5 W → (convert 26 9 (.slice (some ⟨b, 0, none⟩) ds.length cp)).run Tryd.prog W = .ok (.string (bytesOf ds)) W) := fun W hW => conv_cells b 0 cp ds W hzb (cells_below hc hW)
              have HZB := hide hzb
              have hne : (a.toList != a.toList) = false := by simp
              have heq : (a.toList == a.toList) = true := by simp
              have hne2 : ((bytesOf ds).toList != (bytesOf ds).toList) = false := by simp
              have heq2 : ((bytesOf ds).toList == (bytesOf ds).toList) = true := by simp
              clear c0 c1 d0 d2 d3 hc hTG hTG2 hps hxv HDA2 hf300 hzb HDA
              generalize (nums ((foundOf fr a).getD ⟨#[]⟩)).length = m at *
              go_wp2_with fail
              refine HAP.out.mono ?_
              rintro e w7 ⟨av, rfl, ho7, hb7⟩
              have HW7 : Hid (Below w5.heap.size w5 w7) := below_all HW6.out hb7
              have HB7 : Hid (Below wa.heap.size wa w7) := below_all HBy.out hb7
              have g0 := (hb7.cell (p := ⟨gs, i * 2, none⟩) (Nat.lt_of_lt_of_le hg1 HW6.out.size)).trans e0
              have g1 := (hb7.cell (p := ⟨gs, i * 2 + 1, none⟩) (Nat.lt_of_lt_of_le hg1 HW6.out.size)).trans e1
              have k0 := (hb7.cell (p := ⟨gt, i * 4, none⟩) (Nat.lt_of_lt_of_le hg2 HW6.out.size)).trans f0
              have k2 := (hb7.cell (p := ⟨gt, i * 4 + 2, none⟩) (Nat.lt_of_lt_of_le hg2 HW6.out.size)).trans f2
              have kx := (hb7.cell (p := ⟨w5.heap.size, 2, none⟩) (Nat.lt_of_lt_of_le hxb HBy.out.size)).trans hxx
              have hcv1 : ∀ q, (convert 26 9 av).run Tryd.prog (w7.drewN q) = .ok (.string (bytesOf ds)) (w7.drewN q) := fun q => conv_own HZB.out (ownsRow_below ho7 (below_drewN (Below.refl _ _) q))
              have hcv2 : ∀ q, (convert 26 9 (.slice (some ⟨b, 0, none⟩) ds.length cp)).run Tryd.prog (w7.drewN q) = .ok (.string (bytesOf ds)) (w7.drewN q) := fun q => HCV.out _ (below_drewN HW7.out q)
              have HDG := hide (HBD.out _ HW7.out)
              clear e0 e1 f0 f2 f3 hxx ho7 hb7 HAP HBD HCV
              generalize bytesOf ds = bd at *
              generalize digestOf ds = D at *
              generalize ds.length = dl at *
              go_wp2_with fail
              refine HDG.out.mono ?_
              rintro e w8 ⟨rfl, hw8⟩
              obtain rfl := hw8.symm
              go_wp2_with fail
              go_quiet (fail)
              go_wp2_with fail
              go_roundw
              case rel => exact ⟨i + 1, by omega, by go_num, below_drewN HB7.out _⟩
              case measure => simp [intOf]; omega
        · go_wp2_with fail
          go_ret
          exact ⟨rfl, below_all HB5.out HW5.out⟩
end Go.Proofs.YtbhccdedcoajmabDoor

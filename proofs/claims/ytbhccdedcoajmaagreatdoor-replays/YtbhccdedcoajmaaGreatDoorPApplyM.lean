import Derived.Test.YtbhccdedcoajmaaGreatDoorApply
import Derived.Test.YtbhccdedcoajmaaGreatDoorAsFM
import Derived.WalkSpells
import Derived.Test.YtbhccdedcoajmaaGreatDoorPRecPM
import Derived.Test.YtbhccdedcoajmaaGreatDoorPReadBM
import Derived.Test.YtbhccdedcoajmaaGreatDoorPBatchM
import Derived.Test.YtbhccdedcoajmaaGreatDoorMakeLM
import Derived.Test.YtbhccdedcoajmaaGreatDoorTokRowM
import Derived.Deep.QuietTactic
import Derived.BigQuiet
import Derived.Laws.Strings2
namespace Go.Proofs.YtbhccdedcoajmaaGreatDoor
open Go.RowKit

end Go.Proofs.YtbhccdedcoajmaaGreatDoor
namespace Go.Proofs.YtbhccdedcoajmaaGreatDoor
open Go.RowKit

theorem rise_list : ∀ (fs : List (ByteArray × ByteArray)) (first : Bool) (last : List Int), (∀ p, fs.head? = some p → (first || ltL last (nums p.1)) = true) → (∀ i (h : i + 1 < fs.length), ltL (nums fs[i].1) (nums fs[i + 1].1) = true) → Rise first last (fs.map filOf)
  | [], _, _, _, _ => trivial
  | p :: fs, first, last, h1, h2 => by
    refine ⟨h1 p rfl, rise_list fs false (nums p.1) (fun q hq => ?_) (fun i h => h2 (i + 1) (by simpa using h))⟩
    cases fs with
    | nil => simp at hq
    | cons x r =>
      simp at hq
      subst hq
      have := h2 0 (by simp)
      simpa using this
theorem tree_rise {fs : List (ByteArray × ByteArray)} (h : TreeOk fs) : Rise true [] (fs.map filOf) := by
  refine rise_list fs true [] (fun _ _ => by simp) (fun i hi => ?_)
  obtain ⟨_, _, h2, _⟩ := h (i + 1) hi
  exact h2 (by omega)
theorem tree_fil {fs : List (ByteArray × ByteArray)} (h : TreeOk fs) : ∀ f ∈ fs.map filOf, FilOk f ∧ Bytes f.data := by
  intro f hf
  obtain ⟨p, hp, rfl⟩ := List.mem_map.1 hf
  obtain ⟨i, hi, rfl⟩ := List.getElem_of_mem hp
  obtain ⟨_, h1, _, h3, _⟩ := h i hi
  exact ⟨⟨h1, by rw [show (filOf fs[i]).data = nums fs[i].2 from rfl, nums_length]; exact h3, (digestOf_fits _).1, (digestOf_fits _).2⟩, nums_bytes _⟩
theorem tree_apart {fs : List (ByteArray × ByteArray)} (h : TreeOk fs) : (fs.map filOf).Pairwise (fun f g => f.name ≠ g.name) := rise_apart _ _ _ (tree_rise h)
theorem read_told {fs fr : List (ByteArray × ByteArray)} {B : Nat} (hB1 : 1 ≤ B) (hB2 : B ≤ 64) (hs : TreeOk fs) (hr : TreeOk fr) :
    readL (recordL (fs.map filOf) (fr.map filOf) B) = some ⟨B, (fr.map filOf).map entOf, (fs.map filOf).map fun f => (entOf f, diffOf (findL (fr.map filOf) f.name) f.data B)⟩ :=
  read_record hB1 hB2 (tree_apart hr) (tree_fil hs) (fun f hf => (tree_fil hr f hf).1) (tree_rise hs) (tree_rise hr) (by rw [List.length_map]; exact hs.len) (by rw [List.length_map]; exact hr.len)
theorem find_300 {fr : List (ByteArray × ByteArray)} (hr : TreeOk fr) (nm : ByteArray) : ((foundOf fr nm).getD ⟨#[]⟩).size ≤ 300 := by
  unfold foundOf
  cases h : fr.find? fun q => decide (nums q.1 = nums nm) with
  | none => exact Nat.zero_le _
  | some q => exact (hr.sizes q (List.mem_of_find?_eq_some h)).2
theorem target_ok {fs fr : List (ByteArray × ByteArray)} {B : Nat} (hB1 : 1 ≤ B) (hs : TreeOk fs) (hr : TreeOk fr) : ∀ x ∈ fs.map filOf, (targetL (fr.map filOf) B x).length ≤ 1525 ∧ Bytes (targetL (fr.map filOf) B x) := by
  intro x hx
  obtain ⟨p, hp, rfl⟩ := List.mem_map.1 hx
  refine targetL_ok hB1 (by rw [show (filOf p).name = nums p.1 from rfl, nums_length]; exact (hs.sizes p hp).1) (nums_bytes _) (by rw [show (filOf p).data = nums p.2 from rfl, nums_length]; exact (hs.sizes p hp).2) (nums_bytes _) ?_
  rw [show (filOf p).name = nums p.1 from rfl, found_findL, nums_length]
  exact find_300 hr _
theorem entry_ok {fr : List (ByteArray × ByteArray)} (hr : TreeOk fr) : ∀ x ∈ fr.map filOf, (entryL x).length ≤ 23 ∧ Bytes (entryL x) := by
  intro x hx
  obtain ⟨p, hp, rfl⟩ := List.mem_map.1 hx
  have h : (filOf p).name.length ≤ 12 := by rw [show (filOf p).name = nums p.1 from rfl, nums_length]; exact (hr.sizes p hp).1
  exact ⟨entryL_len h, bytes_entry h (nums_bytes _)⟩
theorem record_bytes {fs fr : List (ByteArray × ByteArray)} {B : Nat} (hB1 : 1 ≤ B) (hB2 : B ≤ 64) (hs : TreeOk fs) (hr : TreeOk fr) : Bytes (recordL (fs.map filOf) (fr.map filOf) B) ∧ (recordL (fs.map filOf) (fr.map filOf) B).length ≤ 14000 ∧ 0 < (recordL (fs.map filOf) (fr.map filOf) B).length := by
  have h8 := hs.len
  have g8 := hr.len
  refine ⟨?_, ?_, ?_⟩
  · unfold recordL bodyL
    refine bytes_app (bytes_cons (by omega) (bytes_cons (by omega) (bytes_cons (by omega) (bytes_cons (by omega) (bytes_cons (by rw [List.length_map]; omega) (bytes_app (bytes_flat fun x hx => (entry_ok hr x hx).2) (bytes_cons (by rw [List.length_map]; omega) (bytes_flat fun x hx => (target_ok hB1 hs hr x hx).2)))))))) (putN_bytes _ _)
  · have h1 := flat_len (f := entryL) (c := 23) (fr.map filOf) (fun x hx => (entry_ok hr x hx).1)
    have h2 := flat_len (f := targetL (fr.map filOf) B) (c := 1525) (fs.map filOf) (fun x hx => (target_ok hB1 hs hr x hx).1)
    rw [List.length_map] at h1 h2
    unfold recordL bodyL
    simp only [List.length_append, List.length_cons, putN_length]
    omega
  · unfold recordL bodyL
    simp

/-- the files' list that is looked through to its k-th -/
theorem found_snoc {fr : List (ByteArray × ByteArray)} {nm : ByteArray} {k : Nat} (hk : k < fr.length) (hp : fr.Pairwise fun a b => nums a.1 ≠ nums b.1) :
    (nums fr[k].1 = nums nm → foundOf (fr.take (k + 1)) nm = some fr[k].2) ∧ (nums fr[k].1 ≠ nums nm → foundOf (fr.take (k + 1)) nm = foundOf (fr.take k) nm) := by
  have e : fr.take (k + 1) = fr.take k ++ [fr[k]] := List.take_succ_eq_append_getElem hk
  refine ⟨fun h => ?_, fun h => ?_⟩
  · have hno : (fr.take k).find? (fun p => decide (nums p.1 = nums nm)) = none := by
      rw [List.find?_eq_none]
      intro p hp'
      obtain ⟨i, hi, rfl⟩ := List.getElem_of_mem hp'
      rw [List.getElem_take]
      rw [List.length_take] at hi
      have := List.pairwise_iff_getElem.1 hp i k (by omega) hk (by omega)
      simp only [decide_eq_true_eq]
      exact fun e2 => this (e2.trans h.symm)
    unfold foundOf
    rw [e, List.find?_append, hno]
    simp [h]
  · unfold foundOf
    rw [e, List.find?_append]
    simp [h]
end Go.Proofs.YtbhccdedcoajmaaGreatDoor
namespace Go.Proofs.YtbhccdedcoajmaaGreatDoor
open Go.RowKit

theorem Suf.bytes {l r : List Int} (h : Suf l r) (hb : Bytes l) : Bytes r := by
  obtain ⟨p, rfl⟩ := h
  exact hb.drop p
theorem num_bd {n : Nat} {l : List Int} {q : Int × List Int} (hb : Bytes l) (h : numP n l = some q) : 0 ≤ q.1 ∧ q.1 < 256 ^ n := by
  unfold numP at h
  split at h
  · cases h
  · cases h
    rename_i hl
    have := getN_bd (hb.take n)
    rw [List.length_take, Nat.min_eq_left (by omega)] at this
    exact this
/-- a token that was read fits, and is small -/
theorem tok_fits {old B : Nat} {l : List Int} {q : Tok × List Int} (hb : Bytes l) (h : tokP old B l = some q) : fitsT (chunks old B) q.1 ∧ Held q.1 := by
  unfold tokP at h
  simp only [Option.bind_eq_bind, Option.bind_eq_some_iff] at h
  obtain ⟨a, ha, h⟩ := h
  have hba := (num_suf ha).bytes hb
  split at h
  · simp only [Option.bind_eq_some_iff] at h
    obtain ⟨b, hb1, h⟩ := h
    have hbb := (num_suf hb1).bytes hba
    have hbd := num_bd hba hb1
    split at h
    · rename_i h0
      simp only [Option.bind_eq_some_iff] at h
      obtain ⟨c, hc, h⟩ := h
      have hcl : Bytes c.1 ∧ c.1.length ≤ b.1.toNat := by
        unfold txtP at hc
        split at hc
        · cases hc
        · cases hc
          exact ⟨hbb.take _, by simp [List.length_take]; omega⟩
      cases h
      refine ⟨⟨by simp, by simp, fun _ => rfl, fun h => by simp at h⟩, hcl.1, ?_, ⟨by simp, by simp⟩, ⟨by simp, by simp⟩⟩
      have := hcl.2
      show c.1.length ≤ 255
      omega
    · cases h
  · split at h
    · simp only [Option.bind_eq_some_iff] at h
      obtain ⟨b, hb1, c, hc, h⟩ := h
      have hbd := num_bd hba hb1
      have hcd := num_bd ((num_suf hb1).bytes hba) hc
      split at h
      · rename_i h0
        cases h
        refine ⟨⟨by show 0 ≤ c.1; omega, hbd.1, fun h => by have : c.1 = 0 := h; omega, fun _ => ⟨rfl, h0.2⟩⟩, fun x hx => by simp at hx, by simp, ⟨?_, ?_⟩, ⟨?_, ?_⟩⟩
        · show -9223372036854775808 ≤ b.1; omega
        · show b.1 ≤ 9223372036854775807; omega
        · show -9223372036854775808 ≤ c.1; omega
        · show c.1 ≤ 9223372036854775807; omega
      · cases h
    · cases h
theorem toks_fits {old B : Nat} : ∀ (n : Nat) (l : List Int) (q : List Tok × List Int), Bytes l → toksP old B n l = some q → (∀ t ∈ q.1, fitsT (chunks old B) t ∧ Held t) ∧ q.1.length = n
  | 0, l, q, _, h => by
    simp only [toksP, Option.some.injEq] at h
    subst h
    exact ⟨fun t ht => by simp at ht, rfl⟩
  | n + 1, l, q, hb, h => by
    unfold toksP at h
    simp only [Option.bind_eq_bind, Option.bind_eq_some_iff] at h
    obtain ⟨a, ha, b, hb1, h⟩ := h
    cases h
    have h1 := tok_fits hb ha
    have h2 := toks_fits n a.2 b ((tok_suf ha).bytes hb) hb1
    refine ⟨fun t ht => ?_, by simp [h2.2]⟩
    rcases List.mem_cons.1 ht with rfl | ht
    · exact h1
    · exact h2.1 t ht
/-- what a target that was read says of its tokens -/
def TgFit (bas : List EntL) (B : Nat) (x : EntL × List Tok) : Prop :=
  x.1.size ≤ 300 ∧ (∀ t ∈ x.2, fitsT (chunks (sizeOfL bas x.1.name).toNat B) t ∧ Held t) ∧ x.2.length ≤ 65535 ∧ (x.2.map (madeP (sizeOfL bas x.1.name).toNat B)).sum = x.1.size
theorem targets_fit {bas : List EntL} {B : Nat} : ∀ (n : Nat) (last l : List Int) (q : List (EntL × List Tok) × List Int), Bytes l → targetsP bas B n false last l = some q → ∀ x ∈ q.1, TgFit bas B x
  | 0, last, l, q, _, h => by
    simp only [targetsP, Option.some.injEq] at h
    subst h
    intro x hx; simp at hx
  | n + 1, last, l, q, hb, h => by
    unfold targetsP at h
    simp only [Option.bind_eq_bind, Option.bind_eq_some_iff] at h
    obtain ⟨a, ha, b, hb1, c, hc, h⟩ := h
    have hba := (entry_suf ha).bytes hb
    have hbb := (num_suf hb1).bytes hba
    have hbd := num_bd hba hb1
    split at h
    · rename_i hz
      simp only [Option.bind_eq_some_iff] at h
      obtain ⟨d, hd, h⟩ := h
      cases h
      have hf := toks_fits _ _ _ hbb hc
      intro x hx
      rcases List.mem_cons.1 hx with rfl | hx
      · refine ⟨?_, hf.1, ?_, hz⟩
        · exact (entry_facts (last := last) (l := l) (l' := a.2) (e := a.1) (by rw [ha])).1
        · show c.1.length ≤ 65535
          rw [hf.2]
          omega
      · exact targets_fit n _ _ _ ((toks_suf _ _ _ hc).bytes hbb) hd x hx
    · cases h
theorem basis_same : ∀ (fs : List (ByteArray × ByteArray)) (es : List EntL), basisBad fs es = none → es = (fs.map filOf).map entOf
  | [], [], _ => rfl
  | p :: _, [], h => by cases h
  | [], e :: _, h => by cases h
  | p :: fs, e :: es, h => by
    have hh : (if Same p e then basisBad fs es else some (lesser (nums p.1) e.name)) = none := h
    by_cases hs : Same p e
    · rw [if_pos hs] at hh
      rw [basis_same fs es hh, List.map_cons, List.map_cons]
      obtain ⟨h1, h2, h3⟩ := hs
      obtain ⟨n, z, d⟩ := e
      simp only at h1 h2 h3
      rw [← h1, ← h2, ← h3]
      rfl
    · rw [if_neg hs] at hh; cases hh
theorem apply_fits {zs : List Int} {B : Nat} : ∀ (ts : List Tok) (m : List Int), (∀ t ∈ ts, fitsT (chunks zs.length B) t) → m.length + (madeOf zs B ts).length ≤ 300 → applyGo zs B m ts = .ok (m ++ madeOf zs B ts)
  | [], m, _, _ => by simp [applyGo, madeOf]
  | t :: ts, m, h, hl => by
    rw [madeOf_cons, List.length_append] at hl
    unfold applyGo
    rw [if_pos (fitsB_iff.2 (h t (by simp))), if_neg (by omega), apply_fits ts _ (fun u hu => h u (by simp [hu])) (by rw [List.length_append]; omega), madeOf_cons, List.append_assoc]
/-- over its own basis each target of a batch that was read makes its file -/
theorem make_ok {s : ByteArray} {b : BatL} {fs : List (ByteArray × ByteArray)} (h : readL (nums s) = some b) (hT : TreeOk fs) (hb : basisBad fs b.basis = none) : ∀ x ∈ b.targets, (∀ t ∈ x.2, Held t) ∧ x.2.length ≤ 65535 ∧ ∃ d, applyGo (findL (fs.map filOf) x.1.name) b.block.toNat [] x.2 = .ok d := by
  obtain ⟨bl, bs, ts⟩ := b
  obtain ⟨g4, _, h3, h4, h5, l1, l2, h1, h2, _⟩ := read_parts h
  intro x hx
  have hB := (nums_bytes s).drop 4
  simp only [Option.bind_eq_some_iff] at h1 h2
  obtain ⟨q, hq, h1⟩ := h1
  obtain ⟨u, hu, h2⟩ := h2
  have hB1 : Bytes l1 := (basis_suf _ _ _ _ h1).bytes ((files_suf hq).bytes hB)
  have hB2 := (files_suf hu).bytes hB1
  obtain ⟨f1, f2, f3, f4⟩ := targets_fit _ _ _ _ hB2 h2 x hx
  have hbs := basis_same fs bs hb
  have hsz : sizeOfL bs x.1.name = ((findL (fs.map filOf) x.1.name).length : Int) := by
    rw [hbs]
    exact size_find (rise_apart _ _ _ (tree_rise hT)) _
  rw [hsz, Int.toNat_natCast] at f2 f4
  refine ⟨fun t ht => (f2 t ht).2, f3, _, apply_fits x.2 [] (fun t ht => (f2 t ht).1) ?_⟩
  rw [made_sum (by show 0 < bl.toNat; omega) x.2 (fun t ht => (f2 t ht).1)] at f4
  simp only [List.length_nil]
  show 0 + (madeOf _ bl.toNat _).length ≤ 300
  omega
end Go.Proofs.YtbhccdedcoajmaaGreatDoor
namespace Go.Proofs.YtbhccdedcoajmaaGreatDoor
open Go.RowKit

/-- the reference's reader: the text, where it is, is all well -/
def Rd (w : World) (r : Nat) (s : ByteArray) (p : Nat) (ok : Bool) : Prop := w.heap[r]? = some (.cells #[.string s, .int .i64 p, .bool ok] 158 (0, 0))
theorem Rd.c0 {w : World} {r p : Nat} {s : ByteArray} {ok : Bool} (h : Rd w r s p ok) : w.cell? ⟨r, 0, none⟩ = some (.string s) := cell_row h rfl
theorem Rd.c1 {w : World} {r p : Nat} {s : ByteArray} {ok : Bool} (h : Rd w r s p ok) : w.cell? ⟨r, 1, none⟩ = some (.int .i64 p) := cell_row h rfl
theorem Rd.c2 {w : World} {r p : Nat} {s : ByteArray} {ok : Bool} (h : Rd w r s p ok) : w.cell? ⟨r, 2, none⟩ = some (.bool ok) := cell_row h rfl
theorem Rd.fz {w : World} {r p : Nat} {s : ByteArray} {ok : Bool} (h : Rd w r s p ok) (j : Nat) : w.frozen? ⟨r, j, none⟩ = false := frozen_of_row _ _ _ _ _ h
theorem Rd.drewN {w : World} {r p : Nat} {s : ByteArray} {ok : Bool} (h : Rd w r s p ok) (q : Nat) : Rd (w.drewN q) r s p ok := ((below_drewN (Below.refl (w.heap.size + r + 1) w) q).block r (by omega)).trans h
theorem Rd.set1 {w : World} {r p : Nat} {s : ByteArray} {ok : Bool} (h : Rd w r s p ok) (p' : Nat) : Rd (w.setCell ⟨r, 1, none⟩ (.int .i64 p')) r s p' ok := by
  show _ = _
  rw [heap_setCell_same _ _ _ _ _ _ h]; rfl
theorem Rd.set2 {w : World} {r p : Nat} {s : ByteArray} {ok : Bool} (h : Rd w r s p ok) (ok' : Bool) : Rd (w.setCell ⟨r, 2, none⟩ (.bool ok')) r s p ok' := by
  show _ = _
  rw [heap_setCell_same _ _ _ _ _ _ h]; rfl
set_option maxRecDepth 10000 in
set_option maxHeartbeats 1000000 in
theorem number_off (r p n : Nat) (s : ByteArray) (w : World) (hR : Rd w r s p false) :
    Calls Tryz.prog 68 #[.pointer (some ⟨r, 0, none⟩), .int .i64 n] w fun e w' => e = .returned (.int .u64 0) ∧ Rd w' r s p false ∧ w.grownBy w' (some r) := by
  have c2 := hR.c2
  have HR := hide hR
  have hf := hR.fz
  clear hR
  go_enter Tryz.func68, Tryz.ntmps68
  go_wp2_with fail
  go_quiet (fail)
  have HR1 := hide (HR.out.drewN nq)
  have c2' := HR1.out.c2
  have hf' := HR1.out.fz
  have HG1 : Hid (w.grownBy (w.drewN nq) (some r)) := grown_drewN (grown_refl _ _) nq
  clear c2 hf
  generalize w.drewN nq = w1 at *
  go_wp2_with fail
  go_ret
  exact ⟨rfl, HR1.out.set2 false, HG1.out.trans (setCell_grown _)⟩
set_option maxRecDepth 10000 in
set_option maxHeartbeats 1000000 in
theorem number_short (r p n : Nat) (s : ByteArray) (w : World) (hs : s.size ≤ 70000) (hp : p ≤ s.size) (hn : s.size - p < n) (hR : Rd w r s p true) :
    Calls Tryz.prog 68 #[.pointer (some ⟨r, 0, none⟩), .int .i64 n] w fun e w' => e = .returned (.int .u64 0) ∧ Rd w' r s p false ∧ w.grownBy w' (some r) := by
  have c0 := hR.c0
  have c1 := hR.c1
  have c2 := hR.c2
  have hd : decide ((s.size : Int) - (p : Int) < (n : Int)) = true := decide_eq_true (by omega)
  have hlt : (s.size : Int) - (p : Int) < (n : Int) := by omega
  have HR := hide hR
  have hf := hR.fz
  clear hR
  go_enter Tryz.func68, Tryz.ntmps68
  go_wp2_with fail
  go_quiet (fail)
  have HR1 := hide (HR.out.drewN nq)
  have c2' := HR1.out.c2
  have hf' := HR1.out.fz
  have HG1 : Hid (w.grownBy (w.drewN nq) (some r)) := grown_drewN (grown_refl _ _) nq
  clear c0 c1 c2 hf
  generalize w.drewN nq = w1 at *
  go_wp2_with fail
  go_ret
  exact ⟨rfl, HR1.out.set2 false, HG1.out.trans (setCell_grown _)⟩
set_option maxRecDepth 10000 in
set_option maxHeartbeats 1000000 in
theorem number_on (r p n : Nat) (s : ByteArray) (w : World) (hs : s.size ≤ 70000) (hp : p + n ≤ s.size) (hn : n ≤ 8) (hR : Rd w r s p true) :
    Calls Tryz.prog 68 #[.pointer (some ⟨r, 0, none⟩), .int .i64 n] w fun e w' => e = .returned (.int .u64 (getN (((nums s).drop p).take n))) ∧ Rd w' r s (p + n) true ∧ w.grownBy w' (some r) := by
  have c0 := hR.c0
  have c1 := hR.c1
  have c2 := hR.c2
  have hd : decide ((s.size : Int) - (p : Int) < (n : Int)) = false := decide_eq_false (by omega)
  have HR := hide hR
  have HV : Hid (∀ k, k < n → ∃ (h : p + k < s.size), getN (((nums s).drop p).take (k + 1)) = 256 * getN (((nums s).drop p).take k) + (s[p + k].toNat : Int) ∧ 0 ≤ getN (((nums s).drop p).take k) ∧ 256 * getN (((nums s).drop p).take k) + (s[p + k].toNat : Int) < 18446744073709551616) := by
    intro k hk
    have h : p + k < s.size := by omega
    have hl := nums_length s
    have e1 := getN_take (l := (nums s).drop p) (k := k) (by rw [List.length_drop]; omega)
    rw [List.getElem_drop, nums_at s (p + k) h] at e1
    have hb := getN_bd (l := ((nums s).drop p).take (k + 1)) (((nums_bytes s).drop p).take _)
    have hb0 := getN_bd (l := ((nums s).drop p).take k) (((nums_bytes s).drop p).take _)
    have hpw := pow_le8 (show (((nums s).drop p).take (k + 1)).length ≤ 8 by rw [List.length_take, List.length_drop]; omega)
    refine ⟨h, e1, hb0.1, ?_⟩
    rw [← e1]
    omega
  clear hR
  go_enter Tryz.func68, Tryz.ntmps68
  go_wp2_with fail
  go_quiet (fail)
  have HR1 := hide (HR.out.drewN nq)
  have HG1 : Hid (w.grownBy (w.drewN nq) (some r)) := grown_drewN (grown_refl _ _) nq
  clear c0 c1 c2
  generalize w.drewN nq = w1 at *
  go_wp2_with fail
  go_loopw [5, 6] (fun v5 v6 wr => ∃ k : Nat, k ≤ n ∧ v6 = .int .i64 k ∧ v5 = .int .u64 (getN (((nums s).drop p).take k)) ∧ Hid (Rd wr r s p true) ∧ Hid (w.grownBy wr (some r))) (fun _ v6 _ => n - (intOf v6).toNat)
  case atStart => exact ⟨0, Nat.zero_le _, rfl, by simp [getN], HR1.out, HG1.out⟩
  case round =>
    obtain ⟨k, hk, rfl, rfl, HRr, HGr⟩ := hrel
    by_cases hlt : k < n
    · obtain ⟨h, e1, h0, hbd⟩ := HV.out k hlt
      have d0 := HRr.out.c0
      have d1 := HRr.out.c1
      have hw : IntKind.u64.wrap (256 * getN (((nums s).drop p).take k)) = 256 * getN (((nums s).drop p).take k) := by rw [IntKind.wrap_u64]; omega
      have hw2 : IntKind.u64.wrap (256 * getN (((nums s).drop p).take k) + (s[p + k].toNat : Int)) = 256 * getN (((nums s).drop p).take k) + (s[p + k].toNat : Int) := by rw [IntKind.wrap_u64]; omega
      have E1 := hide e1
      clear e1
      have hx1 : (0 : Int) ≤ (p : Int) + (k : Int) := by omega
      have hx2 : (p : Int) + (k : Int) < (s.size : Int) := by omega
      have hx3 : ((p : Int) + (k : Int)).toNat = p + k := by omega
      have hx4 : IntKind.i64.wrap ((p : Int) + (k : Int)) = (p : Int) + (k : Int) := by rw [IntKind.wrap_i64]; omega
      have hix : ∀ W : World, (Instr.index 9 (.string s) (.int .i64 ((p : Int) + (k : Int)))).run Tryz.prog W = .ok (.int .u8 (s[p + k].toNat : Int)) W := by
        intro W
        rw [run_index_string _ _ _ _ _ (by kernel_rfl)]
        rw [dif_pos ⟨hx1, hx2⟩]
        simp only [hx3]
      generalize getN (((nums s).drop p).take k) = G at *
      go_wp2_with fail
      go_quiet (fail)
      go_wp2_with fail
      go_roundw
      case rel => exact ⟨k + 1, by omega, by go_num, by rw [E1.out], HRr.out.drewN _, grown_drewN HGr.out _⟩
      case measure => simp [intOf]; omega
    · have hkn : k = n := by omega
      have HKN := hide hkn
      clear hkn
      have d1 := HRr.out.c1
      have hf := HRr.out.fz
      go_wp2_with fail
      go_ret
      refine ⟨by rw [HKN.out]; rfl, ?_, HGr.out.trans (setCell_grown _)⟩
      have := HRr.out.set1 (p + n)
      simpa using this

set_option maxRecDepth 10000 in
set_option maxHeartbeats 1000000 in
theorem text_off (r p n : Nat) (s : ByteArray) (w : World) (hR : Rd w r s p false) :
    Calls Tryz.prog 66 #[.pointer (some ⟨r, 0, none⟩), .int .i64 n] w fun e w' => e = .returned (.string ⟨#[]⟩) ∧ Rd w' r s p false ∧ w.grownBy w' (some r) := by
  have c2 := hR.c2
  have HR := hide hR
  clear hR
  go_enter Tryz.func66, Tryz.ntmps66
  go_wp2_with fail
  go_quiet (fail)
  have HR1 := hide (HR.out.drewN nq)
  have c2' := HR1.out.c2
  have hf' := HR1.out.fz
  have HG1 : Hid (w.grownBy (w.drewN nq) (some r)) := grown_drewN (grown_refl _ _) nq
  clear c2
  generalize w.drewN nq = w1 at *
  go_wp2_with fail
  go_ret
  exact ⟨rfl, HR1.out.set2 false, HG1.out.trans (setCell_grown _)⟩
set_option maxRecDepth 10000 in
set_option maxHeartbeats 1000000 in
theorem text_short (r p n : Nat) (s : ByteArray) (w : World) (hs : s.size ≤ 70000) (hp : p ≤ s.size) (hn : s.size - p < n) (hR : Rd w r s p true) :
    Calls Tryz.prog 66 #[.pointer (some ⟨r, 0, none⟩), .int .i64 n] w fun e w' => e = .returned (.string ⟨#[]⟩) ∧ Rd w' r s p false ∧ w.grownBy w' (some r) := by
  have c0 := hR.c0
  have c1 := hR.c1
  have c2 := hR.c2
  have hd : decide ((s.size : Int) - (p : Int) < (n : Int)) = true := decide_eq_true (by omega)
  have hlt : (s.size : Int) - (p : Int) < (n : Int) := by omega
  have HR := hide hR
  clear hR
  go_enter Tryz.func66, Tryz.ntmps66
  go_wp2_with fail
  go_quiet (fail)
  have HR1 := hide (HR.out.drewN nq)
  have c2' := HR1.out.c2
  have hf' := HR1.out.fz
  have HG1 : Hid (w.grownBy (w.drewN nq) (some r)) := grown_drewN (grown_refl _ _) nq
  clear c0 c1 c2
  generalize w.drewN nq = w1 at *
  go_wp2_with fail
  go_ret
  exact ⟨rfl, HR1.out.set2 false, HG1.out.trans (setCell_grown _)⟩
set_option maxRecDepth 10000 in
set_option maxHeartbeats 1000000 in
theorem text_on (r p n : Nat) (s : ByteArray) (w : World) (hs : s.size ≤ 70000) (hp : p + n ≤ s.size) (hR : Rd w r s p true) :
    Calls Tryz.prog 66 #[.pointer (some ⟨r, 0, none⟩), .int .i64 n] w fun e w' => e = .returned (.string (s.extract p (p + n))) ∧ Rd w' r s (p + n) true ∧ w.grownBy w' (some r) := by
  have c0 := hR.c0
  have c1 := hR.c1
  have c2 := hR.c2
  have hd : decide ((s.size : Int) - (p : Int) < (n : Int)) = false := decide_eq_false (by omega)
  have HR := hide hR
  clear hR
  go_enter Tryz.func66, Tryz.ntmps66
  go_wp2_with fail
  go_quiet (fail)
  have HR1 := hide (HR.out.drewN nq)
  have c0' := HR1.out.c0
  have c1' := HR1.out.c1
  have HG1 : Hid (w.grownBy (w.drewN nq) (some r)) := grown_drewN (grown_refl _ _) nq
  clear c0 c1 c2
  generalize w.drewN nq = w1 at *
  have hx4 : IntKind.i64.wrap ((p : Int) + (n : Int)) = (p : Int) + (n : Int) := by rw [IntKind.wrap_i64]; omega
  have hsl : ∀ W : World, (Instr.slice 9 (.string s) (some (.int .i64 p)) (some (.int .i64 ((p : Int) + (n : Int)))) none).run Tryz.prog W = .ok (.string (s.extract p (p + n))) W := by
    intro W
    have := run_slice_string (P := Tryz.prog) W 9 s .i64 .i64 (p : Int) ((p : Int) + (n : Int)) (by kernel_rfl) (by omega) (by omega) (by omega)
    rw [show ((p : Int)).toNat = p by omega, show ((p : Int) + (n : Int)).toNat = p + n by omega] at this
    exact this
  go_wp2_with fail
  go_quiet (fail)
  have HR2 := hide (HR1.out.drewN nq)
  have c1'' := HR2.out.c1
  have hf' := HR2.out.fz
  have HG2 : Hid (w.grownBy (w1.drewN nq) (some r)) := grown_drewN HG1.out nq
  clear c0' c1'
  generalize w1.drewN nq = w2 at *
  go_wp2_with fail
  go_ret
  refine ⟨rfl, ?_, HG2.out.trans (setCell_grown _)⟩
  have := HR2.out.set1 (p + n)
  simpa using this

set_option maxRecDepth 10000 in
set_option maxHeartbeats 400000 in
theorem must_any (r p : Nat) (s : ByteArray) (ok b : Bool) (w : World) (hR : Rd w r s p ok) :
    Calls Tryz.prog 67 #[.pointer (some ⟨r, 0, none⟩), .bool b] w fun e w' => e = .returned (.tuple #[]) ∧ Rd w' r s p (ok && b) ∧ w.grownBy w' (some r) := by
  have c2 := hR.c2
  have hf := hR.fz
  have HR := hide hR
  clear hR
  cases ok
  · go_enter Tryz.func67, Tryz.ntmps67
    go_wp2_with fail
    go_end0
    exact ⟨rfl, HR.out.set2 _, setCell_grown _⟩
  · go_enter Tryz.func67, Tryz.ntmps67
    go_wp2_with fail
    go_end0
    exact ⟨rfl, HR.out.set2 _, setCell_grown _⟩
end Go.Proofs.YtbhccdedcoajmaaGreatDoor

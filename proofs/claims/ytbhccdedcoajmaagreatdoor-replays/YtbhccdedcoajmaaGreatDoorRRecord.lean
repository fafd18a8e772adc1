import Derived.Test.YtbhccdedcoajmaaGreatDoorFairM
import Derived.Test.YtbhccdedcoajmaaGreatDoorPTokenM
namespace Go.Proofs.YtbhccdedcoajmaaGreatDoor
open Go.RowKit

set_option maxRecDepth 10000 in
set_option maxHeartbeats 4000000 in
theorem rrecord_any (vs vr : Value) (fs fr : List (ByteArray × ByteArray)) (B : Nat) (w : World) (hB1 : 1 ≤ B) (hB2 : B ≤ 64) (h8 : fs.length ≤ 8) (g8 : fr.length ≤ 8) (hfs : ∀ p ∈ fs, p.1.size ≤ 12 ∧ p.2.size ≤ 300) (hfr : ∀ p ∈ fr, p.1.size ≤ 12 ∧ p.2.size ≤ 300) (hFs : Fl w vs fs) (hFr : Fl w vr fr) :
    Calls Tryz.prog 21 #[vs, vr, .int .i64 B] w fun e w' => e = .returned (.string (bytesOf (recordL (fs.map filOf) (fr.map filOf) B))) ∧ Below w.heap.size w w' := by
  obtain ⟨j0, hj, y0, y1, y2⟩ := info_parts Tryz.info5
  have HFR := hide hFr
  have HFS := hide hFs
  obtain ⟨vra, rcap, rfl, hrc, hrcell⟩ := hFr
  obtain ⟨vsa, scap, rfl, hsc, hscell⟩ := hFs
  obtain ⟨pre, hpre⟩ : ∃ pre : Nat → List Int, pre = fun k => 66 :: 65 :: 84 :: (B : Int) :: (fr.length : Int) :: (((fr.map filOf).take k).flatMap entryL) := ⟨_, rfl⟩
  have HP0 : Hid (pre 0 = [66, 65, 84, (B : Int), (fr.length : Int)]) := by rw [hpre]; rfl
  have hps : ∀ k (hk : k < fr.length), pre (k + 1) = pre k ++ entryL (filOf fr[k]) := by
    intro k hk
    rw [hpre]
    simp only [List.cons_append]
    rw [List.take_succ_eq_append_getElem (by simpa using hk), List.flatMap_append]
    simp
  have HPL : Hid (∀ k, k ≤ 8 → (pre k).length ≤ 1000) := by
    intro k hk
    have := flat_len (f := entryL) (c := 23) ((fr.map filOf).take k) (fun x hx => by
      obtain ⟨p, hp, rfl⟩ := List.mem_map.1 (List.mem_of_mem_take hx)
      exact entryL_len (by rw [show (filOf p).name = nums p.1 from rfl, nums_length]; exact (hfr p hp).1))
    have hl : ((fr.map filOf).take k).length ≤ 8 := by rw [List.length_take]; omega
    have := Nat.mul_le_mul_left 23 hl
    rw [hpre]
    simp only [List.length_cons]
    show _ ≤ _
    omega
  have HRC : Hid (∀ i, i < fr.length → ∃ (g : Nat) (nm dt : ByteArray), vra = some ⟨g, 0, none⟩ ∧ g < w.heap.size ∧ w.cell? ⟨g, i * 2, none⟩ = some (.string nm) ∧ w.cell? ⟨g, i * 2 + 1, none⟩ = some (.string dt) ∧ pre (i + 1) = pre i ++ entryL ⟨nums nm, nums dt⟩ ∧ nm.size ≤ 12 ∧ dt.size ≤ 300) := by
    intro i hi
    obtain ⟨g, e, hg, c0, c1⟩ := hrcell i hi
    exact ⟨g, _, _, e, hg, c0, c1, hps i hi, (hfr _ (List.getElem_mem hi)).1, (hfr _ (List.getElem_mem hi)).2⟩
  obtain ⟨mid, hmid⟩ : ∃ mid : Nat → List Int, mid = fun k => pre fr.length ++ ((fs.length : Int) :: ((fs.map filOf).take k).flatMap (targetL (fr.map filOf) B)) := ⟨_, rfl⟩
  have HSC : Hid (∀ i, i < fs.length → ∃ (g : Nat) (nm dt : ByteArray), vsa = some ⟨g, 0, none⟩ ∧ g < w.heap.size ∧ w.cell? ⟨g, i * 2, none⟩ = some (.string nm) ∧ w.cell? ⟨g, i * 2 + 1, none⟩ = some (.string dt) ∧ mid (i + 1) = mid i ++ targetL (fr.map filOf) B ⟨nums nm, nums dt⟩ ∧ nm.size ≤ 12 ∧ dt.size ≤ 300) := by
    intro i hi
    obtain ⟨g, e, hg, c0, c1⟩ := hscell i hi
    refine ⟨g, _, _, e, hg, c0, c1, ?_, (hfs _ (List.getElem_mem hi)).1, (hfs _ (List.getElem_mem hi)).2⟩
    rw [hmid]
    show pre fr.length ++ ((fs.length : Int) :: ((fs.map filOf).take (i + 1)).flatMap (targetL (fr.map filOf) B)) = (pre fr.length ++ ((fs.length : Int) :: ((fs.map filOf).take i).flatMap (targetL (fr.map filOf) B))) ++ targetL (fr.map filOf) B ⟨nums fs[i].1, nums fs[i].2⟩
    rw [List.take_succ_eq_append_getElem (by simpa using hi), List.flatMap_append, List.append_assoc, List.cons_append, List.getElem_map, List.flatMap_cons, List.flatMap_nil, List.append_nil]
    rfl
  have HM0 : Hid (mid 0 = pre fr.length ++ [(fs.length : Int)]) := by rw [hmid]; rfl
  have hmn : mid fs.length = bodyL (fs.map filOf) (fr.map filOf) B := by
    rw [hmid, hpre]
    unfold bodyL
    simp only [List.take_of_length_le (l := fs.map filOf) (i := fs.length) (by simp), List.take_of_length_le (l := fr.map filOf) (i := fr.length) (by simp), List.length_map]
    simp
  have HMN := hide hmn
  clear hmn
  have hfound : ∀ nm, ((foundOf fr nm).getD ⟨#[]⟩).size ≤ 300 := by
    intro nm
    unfold foundOf
    cases h : fr.find? fun p => decide (nums p.1 = nums nm) with
    | none => exact Nat.zero_le _
    | some p => exact (hfr p (List.mem_of_find?_eq_some h)).2
  have HFOUND := hide hfound
  have htgt : ∀ p ∈ fs, (targetL (fr.map filOf) B (filOf p)).length ≤ 1525 ∧ Bytes (targetL (fr.map filOf) B (filOf p)) := by
    intro p hp
    refine targetL_ok hB1 (by rw [show (filOf p).name = nums p.1 from rfl, nums_length]; exact (hfs p hp).1) (nums_bytes _) (by rw [show (filOf p).data = nums p.2 from rfl, nums_length]; exact (hfs p hp).2) (nums_bytes _) ?_
    rw [show (filOf p).name = nums p.1 from rfl, found_findL, nums_length]
    exact hfound _
  have HML : Hid (∀ k, k ≤ 8 → (mid k).length ≤ 14000) := by
    intro k hk
    have h1 := flat_len (f := targetL (fr.map filOf) B) (c := 1525) ((fs.map filOf).take k) (fun x hx => by
      obtain ⟨p, hp, rfl⟩ := List.mem_map.1 (List.mem_of_mem_take hx)
      exact (htgt p hp).1)
    have hl : ((fs.map filOf).take k).length ≤ 8 := by rw [List.length_take]; omega
    have := Nat.mul_le_mul_left 1525 hl
    have := HPL.out fr.length g8
    rw [hmid]
    simp only [List.length_cons, List.length_append]
    show _ ≤ _
    omega
  have HMB : Hid (Bytes (mid fs.length)) := by
    show Bytes _
    rw [hmid, hpre]
    refine bytes_app (bytes_cons (by omega) (bytes_cons (by omega) (bytes_cons (by omega) (bytes_cons (by omega) (bytes_cons (by omega) (bytes_flat fun x hx => ?_)))))) (bytes_cons (by omega) (bytes_flat fun x hx => ?_))
    · obtain ⟨p, hp, rfl⟩ := List.mem_map.1 (List.mem_of_mem_take hx)
      exact bytes_entry (by rw [show (filOf p).name = nums p.1 from rfl, nums_length]; exact (hfr p hp).1) (nums_bytes _)
    · obtain ⟨p, hp, rfl⟩ := List.mem_map.1 (List.mem_of_mem_take hx)
      exact (htgt p hp).2
  clear htgt
  clear hrcell hscell hps hmid hfound
  have hBm : (B : Int) % 256 = (B : Int) := by omega
  have hrm : (fr.length : Int) % 256 = (fr.length : Int) := by omega
  have hsm : (fs.length : Int) % 256 = (fs.length : Int) := by omega
  clear hpre
  have HREC : Hid (recordL (fs.map filOf) (fr.map filOf) B = mid fs.length ++ putN 8 (digestOf (mid fs.length))) := by rw [HMN.out]; rfl
  clear hfs hfr
  generalize hRF : fr.map filOf = rf at *
  have HRF := hide hRF
  clear hRF
  generalize hNR : fr.length = nr at *
  generalize hNS : fs.length = ns at *
  go_enter Tryz.func21, Tryz.ntmps21
  go_wp2_with fail
  have HO0 : Hid ((w.alloc (.cells #[.int .u8 66, .int .u8 65, .int .u8 84, .int .u8 (B : Int), .int .u8 (nr : Int)] 5)).ownsRow w.heap.size 5 1 (.slice (some ⟨w.heap.size, 0, none⟩) 5 5) (pre 0).length (u8s (pre 0))) := by
    rw [HP0.out]
    exact ⟨rfl, .inr ⟨w.heap.size, 5, _, rfl, Nat.le_refl _, heap_alloc_new _ _, Nat.le_refl _, by decide, rfl, rfl⟩⟩
  have HB0 : Hid (Below w.heap.size w (w.alloc (.cells #[.int .u8 66, .int .u8 65, .int .u8 84, .int .u8 (B : Int), .int .u8 (nr : Int)] 5))) := (Below.refl _ _).alloc (Nat.le_refl _) _
  go_loopw [7, 8] (fun v7 v8 wr => ∃ k : Nat, k ≤ nr ∧ v8 = .int .i64 k ∧ Hid (wr.ownsRow w.heap.size 5 1 v7 (pre k).length (u8s (pre k))) ∧ Hid (Below w.heap.size w wr)) (fun _ v8 _ => nr - (intOf v8).toNat)
  case atStart => exact ⟨0, Nat.zero_le _, rfl, HO0.out, HB0.out⟩
  case round =>
    obtain ⟨k, hk, rfl, HOr, HBr⟩ := hrel
    by_cases hlt : k < nr
    · obtain ⟨g, nm, dt, rfl, hg, c0, c1, hpk, hn12, hd300⟩ := HRC.out k hlt
      have d0 := (HBr.out.cell (p := ⟨g, k * 2, none⟩) hg).trans c0
      have d1 := (HBr.out.cell (p := ⟨g, k * 2 + 1, none⟩) hg).trans c1
      have HPK := hide hpk
      clear c0 c1 hpk
      go_wp2_with fail
      refine (rputEntry_any w.heap.size _ (pre k) nm dt wr (by omega) (by omega) (by have := HPL.out k (by omega); omega) HBr.out.size HOr.out).mono ?_
      rintro e w2 ⟨v2, rfl, ho2, hb2, _⟩
      have HO2 : Hid (w2.ownsRow w.heap.size 5 1 v2 (pre (k + 1)).length (u8s (pre (k + 1)))) := by rw [HPK.out]; exact ho2
      have HB2 : Hid (Below w.heap.size w w2) := HBr.out.trans hb2
      clear ho2 hb2
      go_wp2_with fail
      go_roundw
      case rel => exact ⟨k + 1, by omega, by go_num, HO2.out, HB2.out⟩
      case measure => simp [intOf]; omega
    · have hkn : k = nr := by omega
      subst hkn
      have hpl := HPL.out k (by omega)
      go_wp2_with (at_builtin; refine wpList_append_own_at _ rfl (.tmp 33) (.tmp 37) 38 rfl w.heap.size 5 j0 (.int .u8 0) 1 1 Tryz.underlying38 hj y0 y1 y2 rfl (by decide) _ (pre k).length (u8s (pre k)) rfl (HOr.out.alloc _) ⟨wr.heap.size, 0, none⟩ 1 1 [.int .u8 (ns : Int)] rfl rfl ?ka ?kb ?kc ?kd ?ke ?kf)
      case ka =>
        intro j y hy
        match j, hy with
        | 0, hy => simp at hy; subst hy; simp [Addr.add]
      case kb => intro y hy; simp at hy; subst hy; rfl
      case kc => unfold maxLen; omega
      case kd => omega
      case ke => have := HBr.out.size; simp; omega
      case kf =>
        intro v1 w1 hown hgrow _ hloc
        have HG1 : Hid (Grew wr w1 _ v1) := ⟨(World.grownBy_alloc wr _ _).trans hgrow, hloc.imp id fun e => ⟨_, by simp, e⟩⟩
        have HB1 : Hid (Below w.heap.size w w1) := HBr.out.grown HG1.out.1 HBr.out.size (fun j hj => (HOr.out.lt j hj).1)
        have HO1 : Hid (w1.ownsRow w.heap.size 5 1 v1 (pre k ++ [(ns : Int)]).length (u8s (pre k ++ [(ns : Int)]))) := by
          have h := hown
          have e : u8s (pre k) ++ [.int .u8 (ns : Int)] = u8s (pre k ++ [(ns : Int)]) := by simp [u8s]
          rw [e] at h
          show World.ownsRow _ _ _ _ _ _ _
          rw [List.length_append]
          exact h
        clear hown hgrow hloc
        have HX : Hid (w1.ownsRow w.heap.size 5 1 v1 (mid 0).length (u8s (mid 0))) := by rw [HM0.out]; exact HO1.out
        clear HO1 HOr
        go_wp2_with fail
        go_loopw [7, 9] (fun v7 v9 wq => ∃ q : Nat, q ≤ ns ∧ v9 = .int .i64 q ∧ Hid (wq.ownsRow w.heap.size 5 1 v7 (mid q).length (u8s (mid q))) ∧ Hid (Below w.heap.size w wq)) (fun _ v9 _ => ns - (intOf v9).toNat)
        case atStart => exact ⟨0, Nat.zero_le _, rfl, HX.out, HB1.out⟩
        case round =>
          clear HG1 HX HB1 HP0 HO0 HB0 HRC

          obtain ⟨q, hq, rfl, HOq, HBq⟩ := hrel
          by_cases hqt : q < ns
          · obtain ⟨g, nm, dt, rfl, hg, c0, c1, hmq, hn12, hd300⟩ := HSC.out q hqt
            have d0 := (HBq.out.cell (p := ⟨g, q * 2, none⟩) hg).trans c0
            have d1 := (HBq.out.cell (p := ⟨g, q * 2 + 1, none⟩) hg).trans c1
            have HMQ := hide hmq
            have hml := HML.out q (by omega)
            have HML2 := hide (HML.out (q + 1) (by omega))
            clear hmq
            go_wp2_with fail
            refine (rputEntry_any w.heap.size _ (mid q) nm dt wr (by omega) (by omega) (by omega) HBq.out.size HOq.out).mono ?_
            rintro e w2 ⟨v2, rfl, ho2, hb2, _⟩
            have HO2 := hide ho2
            have HB2 : Hid (Below w.heap.size w w2) := HBq.out.trans hb2
            clear ho2 hb2 d0 d1
            have d0 := (HB2.out.cell (p := ⟨g, q * 2, none⟩) hg).trans c0
            have d1 := (HB2.out.cell (p := ⟨g, q * 2 + 1, none⟩) hg).trans c1
            go_wp2_with fail
            refine (rfind_any _ fr nm w2 (by omega) (HFR.out.below HB2.out)).mono ?_
            rintro e w3 ⟨rfl, hb3⟩
            have HO3 := hide (ownsRow_below HO2.out hb3)
            have HB3 : Hid (Below w.heap.size w w3) := HB2.out.trans (hb3.mono HB2.out.size)
            clear hb3 d0 d1
            have d1 := (HB3.out.cell (p := ⟨g, q * 2 + 1, none⟩) hg).trans c1
            have hfo := HFOUND.out nm
            obtain ⟨bs, hbs⟩ : ∃ bs, bs = (foundOf fr nm).getD ⟨#[]⟩ := ⟨_, rfl⟩
            rw [← hbs] at hfo ⊢
            have HBS := hide hbs
            clear hbs
            generalize (foundOf fr nm).isSome = isS
            go_wp2_with fail
            refine (rdiff_ok bs dt B w3 hB1 hB2 hfo hd300).mono ?_
            rintro e w4 ⟨tv, ps, rfl, ht4, hps, hb4⟩
            obtain ⟨va, cap, rfl, hcap, hopen⟩ := ht4.opened
            have HT1 : Hid (∀ k, Value.ownBlock (.slice va ps.length cap) = some k → w3.heap.size ≤ k ∧ k < w4.heap.size) := ht4.row.lt
            have HT2 : Hid (∀ p ∈ ps, ∀ k, p.2.ownBlock = some k → w3.heap.size ≤ k ∧ k < w4.heap.size) := fun p hp => (ht4.data p hp).lt
            have HT4 := hide ht4
            have HO4 := hide (ownsRow_below HO3.out hb4)
            have HB4 : Hid (Below w.heap.size w w4) := HB3.out.trans (hb4.mono HB3.out.size)
            have HR4 : Hid (∀ k, v2.ownBlock = some k → k < w3.heap.size ∨ w4.heap.size ≤ k) := fun k hk => .inl (HO3.out.lt k hk).2
            have hfair := fair_diffOf (zs := nums bs) (ds := nums dt) hB1 (by rw [nums_length]; exact hfo) (nums_bytes _)
            have hfull : Full1 (diffOf (nums bs) (nums dt) B) := full1_diffGo (zs := nums bs) (B := B) hB1 (nums dt).length (nums dt) [] (Nat.le_refl _) (fun t ht => by simp at ht)
            have e2 : targetL rf B ⟨nums nm, nums dt⟩ = entryL ⟨nums nm, nums dt⟩ ++ (putN 2 ((diffOf (findL rf (nums nm)) (nums dt) B).length : Int) ++ (diffOf (findL rf (nums nm)) (nums dt) B).flatMap tokL) := rfl
            rw [← HRF.out, found_findL, ← HBS.out, ← hps, List.length_map, HRF.out] at e2
            rw [← hps] at hfair hfull
            have hpl2 : ps.length ≤ 300 := by have := hfair.2; rw [List.length_map, nums_length] at this; omega
            obtain ⟨acc, hacc⟩ : ∃ acc : Nat → List Int, acc = fun j => mid q ++ entryL ⟨nums nm, nums dt⟩ ++ putN 2 (ps.length : Int) ++ ((ps.map Prod.fst).take j).flatMap tokL := ⟨_, rfl⟩
            have hA0 : acc 0 = mid q ++ entryL ⟨nums nm, nums dt⟩ ++ putN 2 (ps.length : Int) := by rw [hacc]; simp
            have hAN : acc ps.length = mid (q + 1) := by
              rw [hacc, HMQ.out, e2]
              simp only [List.take_of_length_le (l := ps.map Prod.fst) (i := ps.length) (by simp), List.append_assoc]
            have hcut : ∀ j, acc ps.length = acc j ++ ((ps.map Prod.fst).drop j).flatMap tokL := by
              intro j
              rw [hacc]
              show _ ++ _ = (_ ++ _) ++ _
              rw [List.append_assoc _ (((ps.map Prod.fst).take j).flatMap tokL), ← List.flatMap_append, List.take_append_drop, List.take_of_length_le (by simp)]
            have HAL : Hid (∀ j, (acc j).length ≤ 14000) := by
              intro j
              have h := congrArg List.length (hcut j)
              rw [hAN, List.length_append] at h
              have := HML2.out
              show _ ≤ _
              omega
            have HJ : Hid (∀ j, j < ps.length → ∃ (t : Tok) (u : Value) (g : Nat), va = some ⟨g, 0, none⟩ ∧ Fair t ∧ (t.count = 0 → 0 < t.data.length) ∧ acc (j + 1) = acc j ++ tokL t ∧ ∀ W, TokRow W w3.heap.size (.slice va ps.length cap) ps → W.cell? ⟨g, j * 3, none⟩ = some (.int .i64 t.block) ∧ W.cell? ⟨g, j * 3 + 1, none⟩ = some (.int .i64 t.count) ∧ W.cell? ⟨g, j * 3 + 2, none⟩ = some u ∧ W.ownsRow w3.heap.size 5 1 u t.data.length (u8s t.data)) := by
              intro j hj
              obtain ⟨g, rfl, _⟩ := hopen j hj
              have hm : ps[j].1 ∈ ps.map Prod.fst := List.mem_map_of_mem (List.getElem_mem hj)
              refine ⟨ps[j].1, ps[j].2, g, rfl, hfair.1 _ hm, hfull _ hm, ?_, fun W hW => ?_⟩
              · rw [hacc]
                show _ ++ _ = (_ ++ _) ++ _
                rw [List.take_succ_eq_append_getElem (by simpa using hj), List.flatMap_append, List.append_assoc _ (((ps.map Prod.fst).take j).flatMap tokL), List.getElem_map, List.flatMap_cons, List.flatMap_nil, List.append_nil]
              · obtain ⟨z0, z1, z2⟩ := hW.cells j hj
                exact ⟨z0, z1, z2, hW.data _ (List.getElem_mem hj)⟩
            have HA0 := hide hA0
            have HAN := hide hAN
            have hle : (mid q ++ entryL ⟨nums nm, nums dt⟩).length ≤ 1000000 := by
              have h := HAL.out 0
              rw [hA0, List.length_append] at h
              omega
            clear ht4 hb4 hopen hfair hfull e2 hps hacc hA0 hAN hcut d1 c0 c1
            generalize hM : ps.length = m at *
            go_wp2_with fail
            refine (put_any w.heap.size 2 v2 _ (m : Int) w4 (by omega) (by omega) (by omega) hle HB4.out.size HO4.out).mono ?_
            rintro e w5 ⟨v5, rfl, ho5, hb5, hg5⟩
            have HO5 : Hid (w5.ownsRow w.heap.size 5 1 v5 (acc 0).length (u8s (acc 0))) := by rw [HA0.out]; exact ho5
            have HB5 : Hid (Below w.heap.size w w5) := HB4.out.trans hb5
            have HT5 : Hid (TokRow w5 w3.heap.size (.slice va m cap) ps) := HT4.out.grew HT1.out HT2.out HR4.out hg5.1
            have HR5 : Hid (∀ k, v5.ownBlock = some k → k < w3.heap.size ∨ w4.heap.size ≤ k) := hg5.row (Nat.le_refl _) HR4.out
            have HZ5 : Hid (w4.heap.size ≤ w5.heap.size) := hg5.1.size
            clear ho5 hb5 hg5 HO4 HB4 HT4 HR4 HO3 HB3 HO2 HB2 HOq HBq hle HA0
            go_wp2_with fail
            go_loopw [7, 13] (fun v7 v13 wx => ∃ j : Nat, j ≤ m ∧ v13 = .int .i64 j ∧ Hid (wx.ownsRow w.heap.size 5 1 v7 (acc j).length (u8s (acc j))) ∧ Hid (Below w.heap.size w wx) ∧ Hid (TokRow wx w3.heap.size (.slice va m cap) ps) ∧ Hid (∀ k, v7.ownBlock = some k → k < w3.heap.size ∨ w4.heap.size ≤ k) ∧ Hid (w4.heap.size ≤ wx.heap.size)) (fun _ v13 _ => m - (intOf v13).toNat)
            case atStart => exact ⟨0, Nat.zero_le _, rfl, HO5.out, HB5.out, HT5.out, HR5.out, HZ5.out⟩
            case round =>
              clear HO5 HB5 HT5 HR5 HZ5
              obtain ⟨j, hjm, rfl, HOx, HBx, HTx, HRx, HZx⟩ := hrel
              by_cases hjt : j < m
              · obtain ⟨t, u, gt, rfl, hft, hfl, hst, hcl⟩ := HJ.out j hjt
                obtain ⟨_, hf2, hf3, hf4, hf5, hf6⟩ := hft
                obtain ⟨x0, x1, x2, x3⟩ := hcl _ HTx.out
                have hal := HAL.out j
                have HST := hide hst
                have HCL := hide hcl
                clear hst hcl
                by_cases hc0 : t.count = 0
                · rw [hc0] at x1
                  have hL0 := hfl hc0
                  obtain ⟨gd, cd, rfl, hgd⟩ : ∃ gd cd, u = .slice (some ⟨gd, 0, none⟩) t.data.length cd ∧ t.data.length ≤ cd := by
                    rcases own_shape x3 with ⟨_, h⟩ | ⟨gd, cd, h, _, _, h1, _⟩
                    · rw [h] at hL0; simp at hL0
                    · exact ⟨gd, cd, h, h1⟩
                  have htl : tokL t = [0, (t.data.length : Int)] ++ t.data := by unfold tokL; rw [if_pos hc0]; rfl
                  rw [htl] at HST
                  clear x3 htl
                  generalize hTD : t.data = td at *
                  have hLm : (td.length : Int) % 256 = (td.length : Int) := by omega
                  go_wp2_with (at_builtin; refine wpList_append_own_at _ rfl (.tmp 86) (.tmp 94) 38 rfl w.heap.size 5 j0 (.int .u8 0) 1 1 Tryz.underlying38 hj y0 y1 y2 rfl (by decide) _ (acc j).length (u8s (acc j)) rfl (HOx.out.alloc _) ⟨wr.heap.size, 0, none⟩ 2 2 [.int .u8 0, .int .u8 (td.length : Int)] rfl rfl ?pa ?pb ?pc ?pd ?pe ?pf)
                  case pa =>
                    intro j y hy
                    match j, hy with
                    | 0, hy => simp at hy; subst hy; simp [Addr.add]
                    | 1, hy => simp at hy; subst hy; simp [Addr.add]
                  case pb => intro y hy; simp at hy; rcases hy with rfl | rfl <;> rfl
                  case pc => unfold maxLen; omega
                  case pd => omega
                  case pe => have := HBx.out.size; simp; omega
                  case pf =>
                    intro v6 w6 hown hgrow _ hloc
                    have HG6 : Hid (Grew wr w6 _ v6) := ⟨(World.grownBy_alloc wr _ _).trans hgrow, hloc.imp id fun e => ⟨_, by simp, e⟩⟩
                    have HB6 : Hid (Below w.heap.size w w6) := HBx.out.grown HG6.out.1 HBx.out.size (fun j hj => (HOx.out.lt j hj).1)
                    have HO6 : Hid (w6.ownsRow w.heap.size 5 1 v6 (acc j ++ [0, (td.length : Int)]).length (u8s (acc j ++ [0, (td.length : Int)]))) := by
                      have e1 : ∀ n cs, w6.ownsRow w.heap.size 5 1 v6 n cs → n = (acc j ++ [0, (td.length : Int)]).length → cs = u8s (acc j ++ [0, (td.length : Int)]) → w6.ownsRow w.heap.size 5 1 v6 (acc j ++ [0, (td.length : Int)]).length (u8s (acc j ++ [0, (td.length : Int)])) := by rintro n cs h rfl rfl; exact h
                      exact e1 _ _ hown (by simp <;> omega) (by simp [u8s])
                    have HT6 : Hid (TokRow w6 w3.heap.size (.slice (some ⟨gt, 0, none⟩) m cap) ps) := HTx.out.grew HT1.out HT2.out HRx.out HG6.out.1
                    have HR6 : Hid (∀ k, v6.ownBlock = some k → k < w3.heap.size ∨ w4.heap.size ≤ k) := HG6.out.row HZx.out HRx.out
                    have HZ6 : Hid (w4.heap.size ≤ w6.heap.size) := Nat.le_trans HZx.out HG6.out.1.size
                    clear hown hgrow hloc
                    clear HOx HBx HTx HRx HZx x0 x1 x2
                    obtain ⟨x0, x1, x2, x3⟩ := HCL.out _ HT6.out
                    have X3 := hide x3
                    clear x3 HCL
                    have hnl : (u8s td).length = td.length * 1 := by simp [u8s]
                    have hal6 : (acc j ++ [0, (td.length : Int)]).length ≤ 14002 := by simp; omega
                    go_wp2_with (at_builtin; refine wpList_append_own_at _ rfl (.tmp 96) (.tmp 101) 38 rfl w.heap.size 5 j0 (.int .u8 0) 1 1 Tryz.underlying38 hj y0 y1 y2 rfl (by decide) _ (acc j ++ [0, (td.length : Int)]).length (u8s (acc j ++ [0, (td.length : Int)])) rfl HO6.out ⟨gd, 0, none⟩ td.length cd (u8s td) rfl hnl ?ra ?rb ?rc ?rd ?re ?rf)
                    case ra => exact X3.out.cells (g := gd) rfl
                    case rb => intro y hy; simp [u8s] at hy; obtain ⟨a, _, rfl⟩ := hy; rfl
                    case rc => unfold maxLen; omega
                    case rd => omega
                    case re => exact HB6.out.size
                    case rf =>
                      intro v7 w7 hown hgrow _ hloc
                      have HG7 : Hid (Grew w6 w7 _ v7) := ⟨hgrow, hloc.imp id fun e => ⟨_, Nat.le_refl _, e⟩⟩
                      have HB7 : Hid (Below w.heap.size w w7) := HB6.out.grown HG7.out.1 HB6.out.size (fun j hj => (HO6.out.lt j hj).1)
                      have HO7 : Hid (w7.ownsRow w.heap.size 5 1 v7 (acc j ++ [0, (td.length : Int)] ++ td).length (u8s (acc j ++ [0, (td.length : Int)] ++ td))) := by
                        have e1 : ∀ n cs, w7.ownsRow w.heap.size 5 1 v7 n cs → n = (acc j ++ [0, (td.length : Int)] ++ td).length → cs = u8s (acc j ++ [0, (td.length : Int)] ++ td) → w7.ownsRow w.heap.size 5 1 v7 (acc j ++ [0, (td.length : Int)] ++ td).length (u8s (acc j ++ [0, (td.length : Int)] ++ td)) := by rintro n cs h rfl rfl; exact h
                        exact e1 _ _ hown (by simp <;> omega) (by simp [u8s])
                      have HT7 : Hid (TokRow w7 w3.heap.size (.slice (some ⟨gt, 0, none⟩) m cap) ps) := HT6.out.grew HT1.out HT2.out HR6.out HG7.out.1
                      have HR7 : Hid (∀ k, v7.ownBlock = some k → k < w3.heap.size ∨ w4.heap.size ≤ k) := HG7.out.row HZ6.out HR6.out
                      have HZ7 : Hid (w4.heap.size ≤ w7.heap.size) := Nat.le_trans HZ6.out HG7.out.1.size
                      clear hown hgrow hloc
                      have HF : Hid (w7.ownsRow w.heap.size 5 1 v7 (acc (j + 1)).length (u8s (acc (j + 1)))) := by rw [HST.out, ← List.append_assoc]; exact HO7.out
                      go_wp2_with fail
                      go_roundw
                      case rel => exact ⟨j + 1, by omega, by go_num, HF.out, HB7.out, HT7.out, HR7.out, HZ7.out⟩
                      case measure => simp [intOf]; omega
                · have htl : tokL t = [1] ++ (putN 2 t.block ++ [t.count]) := by unfold tokL; rw [if_neg hc0]; rfl
                  rw [htl] at HST
                  clear htl x3
                  have hcm : t.count % 256 = t.count := by omega
                  have hbm : t.block % 18446744073709551616 = t.block := by omega
                  go_wp2_with (at_builtin; refine wpList_append_own_at _ rfl (.tmp 103) (.tmp 104) 38 rfl w.heap.size 5 j0 (.int .u8 0) 1 1 Tryz.underlying38 hj y0 y1 y2 rfl (by decide) _ (acc j).length (u8s (acc j)) rfl (HOx.out.alloc _) ⟨wr.heap.size, 0, none⟩ 1 1 [.int .u8 1] rfl rfl ?pa ?pb ?pc ?pd ?pe ?pf)
                  case pa =>
                    intro j y hy
                    match j, hy with
                    | 0, hy => simp at hy; subst hy; simp [Addr.add]
                  case pb => intro y hy; simp at hy; subst hy; rfl
                  case pc => unfold maxLen; omega
                  case pd => omega
                  case pe => have := HBx.out.size; simp; omega
                  case pf =>
                    intro v6 w6 hown hgrow _ hloc
                    have HG6 : Hid (Grew wr w6 _ v6) := ⟨(World.grownBy_alloc wr _ _).trans hgrow, hloc.imp id fun e => ⟨_, by simp, e⟩⟩
                    have HB6 : Hid (Below w.heap.size w w6) := HBx.out.grown HG6.out.1 HBx.out.size (fun j hj => (HOx.out.lt j hj).1)
                    have HO6 : Hid (w6.ownsRow w.heap.size 5 1 v6 (acc j ++ [1]).length (u8s (acc j ++ [1]))) := by
                      have e1 : ∀ n cs, w6.ownsRow w.heap.size 5 1 v6 n cs → n = (acc j ++ [1]).length → cs = u8s (acc j ++ [1]) → w6.ownsRow w.heap.size 5 1 v6 (acc j ++ [1]).length (u8s (acc j ++ [1])) := by rintro n cs h rfl rfl; exact h
                      exact e1 _ _ hown (by simp <;> omega) (by simp [u8s])
                    have HT6 : Hid (TokRow w6 w3.heap.size (.slice (some ⟨gt, 0, none⟩) m cap) ps) := HTx.out.grew HT1.out HT2.out HRx.out HG6.out.1
                    have HR6 : Hid (∀ k, v6.ownBlock = some k → k < w3.heap.size ∨ w4.heap.size ≤ k) := HG6.out.row HZx.out HRx.out
                    have HZ6 : Hid (w4.heap.size ≤ w6.heap.size) := Nat.le_trans HZx.out HG6.out.1.size
                    clear hown hgrow hloc
                    clear HOx HBx HTx HRx HZx x0 x1 x2
                    obtain ⟨x0, x1, x2, _⟩ := HCL.out _ HT6.out
                    have hal6 : (acc j ++ [1]).length ≤ 14001 := by simp; omega
                    go_wp2_with fail
                    refine (put_any w.heap.size 2 v6 _ t.block w6 (by omega) hf3 (by omega) (by omega) HB6.out.size HO6.out).mono ?_
                    rintro e w7 ⟨v7, rfl, ho7, hb7, hg7⟩
                    have HO7 := hide ho7
                    have HB7 : Hid (Below w.heap.size w w7) := HB6.out.trans hb7
                    have HT7 : Hid (TokRow w7 w3.heap.size (.slice (some ⟨gt, 0, none⟩) m cap) ps) := HT6.out.grew HT1.out HT2.out HR6.out hg7.1
                    have HR7 : Hid (∀ k, v7.ownBlock = some k → k < w3.heap.size ∨ w4.heap.size ≤ k) := hg7.row HZ6.out HR6.out
                    have HZ7 : Hid (w4.heap.size ≤ w7.heap.size) := Nat.le_trans HZ6.out hg7.1.size
                    clear ho7 hb7 hg7 HO6 HB6 HT6 HR6 HZ6 x0 x1 x2
                    obtain ⟨x0, x1, x2, _⟩ := HCL.out _ HT7.out
                    have hal7 : (acc j ++ [1] ++ putN 2 t.block).length ≤ 14003 := by rw [List.length_append, putN_length]; omega
                    go_wp2_with (at_builtin; refine wpList_append_own_at _ rfl (.tmp 114) (.tmp 121) 38 rfl w.heap.size 5 j0 (.int .u8 0) 1 1 Tryz.underlying38 hj y0 y1 y2 rfl (by decide) _ (acc j ++ [1] ++ putN 2 t.block).length (u8s (acc j ++ [1] ++ putN 2 t.block)) rfl (HO7.out.alloc _) ⟨w7.heap.size, 0, none⟩ 1 1 [.int .u8 t.count] rfl rfl ?ra ?rb ?rc ?rd ?re ?rf)
                    case ra =>
                      intro j y hy
                      match j, hy with
                      | 0, hy => simp at hy; subst hy; simp [Addr.add]
                    case rb => intro y hy; simp at hy; subst hy; rfl
                    case rc => unfold maxLen; omega
                    case rd => omega
                    case re => have := HB7.out.size; simp; omega
                    case rf =>
                      intro v8 w8 hown hgrow _ hloc
                      have HG8 : Hid (Grew w7 w8 _ v8) := ⟨(World.grownBy_alloc w7 _ _).trans hgrow, hloc.imp id fun e => ⟨_, by simp, e⟩⟩
                      have HB8 : Hid (Below w.heap.size w w8) := HB7.out.grown HG8.out.1 HB7.out.size (fun j hj => (HO7.out.lt j hj).1)
                      have HO8 : Hid (w8.ownsRow w.heap.size 5 1 v8 (acc j ++ [1] ++ putN 2 t.block ++ [t.count]).length (u8s (acc j ++ [1] ++ putN 2 t.block ++ [t.count]))) := by
                        have e1 : ∀ n cs, w8.ownsRow w.heap.size 5 1 v8 n cs → n = (acc j ++ [1] ++ putN 2 t.block ++ [t.count]).length → cs = u8s (acc j ++ [1] ++ putN 2 t.block ++ [t.count]) → w8.ownsRow w.heap.size 5 1 v8 (acc j ++ [1] ++ putN 2 t.block ++ [t.count]).length (u8s (acc j ++ [1] ++ putN 2 t.block ++ [t.count])) := by rintro n cs h rfl rfl; exact h
                        exact e1 _ _ hown (by simp <;> omega) (by simp [u8s])
                      have HT8 : Hid (TokRow w8 w3.heap.size (.slice (some ⟨gt, 0, none⟩) m cap) ps) := HT7.out.grew HT1.out HT2.out HR7.out HG8.out.1
                      have HR8 : Hid (∀ k, v8.ownBlock = some k → k < w3.heap.size ∨ w4.heap.size ≤ k) := HG8.out.row HZ7.out HR7.out
                      have HZ8 : Hid (w4.heap.size ≤ w8.heap.size) := Nat.le_trans HZ7.out HG8.out.1.size
                      clear hown hgrow hloc
                      have HF : Hid (w8.ownsRow w.heap.size 5 1 v8 (acc (j + 1)).length (u8s (acc (j + 1)))) := by
                        have e : acc j ++ ([1] ++ (putN 2 t.block ++ [t.count])) = acc j ++ [1] ++ putN 2 t.block ++ [t.count] := by simp
                        rw [HST.out, e]; exact HO8.out
                      go_wp2_with fail
                      go_roundw
                      case rel => exact ⟨j + 1, by omega, by go_num, HF.out, HB8.out, HT8.out, HR8.out, HZ8.out⟩
                      case measure => simp [intOf]; omega
              · have hjn : j = m := by omega
                subst hjn
                have HN : Hid (wr.ownsRow w.heap.size 5 1 u7 (mid (q + 1)).length (u8s (mid (q + 1)))) := by rw [← HAN.out]; exact HOx.out
                clear HOx
                go_wp2_with fail
                go_roundw
                case rel => exact ⟨q + 1, by omega, by go_num, HN.out, HBx.out⟩
                case measure => simp [intOf]; omega

          · have hqn : q = ns := by omega
            subst hqn
            have hml := HML.out q (by omega)
            have hcv := conv_own HMB.out HOq.out
            have hsz : (bytesOf (mid q)).size ≤ 70000 := by rw [bytesOf_size]; omega
            go_wp2_with fail
            refine (rdigest_any (bytesOf (mid q)) hsz wr).mono ?_
            rintro e w2 ⟨rfl, hw2⟩
            obtain rfl := hw2.symm
            have hD : digestOf (nums (bytesOf (mid q))) = digestOf (mid q) := by rw [nums_bytesOf HMB.out]
            have hdb := digest_bd (mid q)
            rw [hD]
            clear hD hcv
            generalize hDG : digestOf (mid q) = D at *
            go_wp2_with fail
            refine (put_any w.heap.size 8 u7 (mid q) D wr (by omega) hdb.1 hdb.2 (by omega) HBq.out.size HOq.out).mono ?_
            rintro e w3 ⟨v3, rfl, ho3, hb3, _⟩
            have hcv := conv_own (bytes_app HMB.out (putN_bytes 8 D)) ho3
            have HB3 : Hid (Below w.heap.size w w3) := HBq.out.trans hb3
            clear ho3 hb3
            go_wp2_with fail
            go_ret
            rw [HREC.out]
            exact ⟨rfl, HB3.out⟩
end Go.Proofs.YtbhccdedcoajmaaGreatDoor

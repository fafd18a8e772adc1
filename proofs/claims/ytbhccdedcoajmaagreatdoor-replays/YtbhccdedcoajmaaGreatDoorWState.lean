import Derived.Test.YtbhccdedcoajmaaGreatDoorRMirWM
import Derived.Test.YtbhccdedcoajmaaGreatDoorMirM
namespace Go.Proofs.YtbhccdedcoajmaaGreatDoor
open Go.RowKit

/-- a step leaves the streams alone, and all blocks but those of S -/
structure Keeps (S : Nat → Prop) (w w' : World) : Prop where
  os : w'.os = w.os
  tape : w'.tape = w.tape
  output : w'.output = w.output
  size : w.heap.size ≤ w'.heap.size
  block : ∀ k, k < w.heap.size → ¬ S k → w'.heap[k]? = w.heap[k]?
theorem Keeps.refl (S : Nat → Prop) (w : World) : Keeps S w w := ⟨rfl, rfl, rfl, Nat.le_refl _, fun _ _ _ => rfl⟩
theorem Keeps.trans {S S2 : Nat → Prop} {a b c : World} (h1 : Keeps S a b) (h2 : Keeps S2 b c) (hs : ∀ k, k < a.heap.size → S2 k → S k) : Keeps S a c :=
  ⟨h2.os.trans h1.os, h2.tape.trans h1.tape, h2.output.trans h1.output, Nat.le_trans h1.size h2.size, fun k hk hn => (h2.block k (Nat.lt_of_lt_of_le hk h1.size) (fun h => hn (hs k hk h))).trans (h1.block k hk hn)⟩
theorem Keeps.mono {S S2 : Nat → Prop} {a b : World} (h : Keeps S a b) (hs : ∀ k, k < a.heap.size → S k → S2 k) : Keeps S2 a b :=
  ⟨h.os, h.tape, h.output, h.size, fun k hk hn => h.block k hk (fun h' => hn (hs k hk h'))⟩
theorem below_keeps {w w' : World} (h : Below w.heap.size w w') (S : Nat → Prop) : Keeps S w w' := ⟨h.os, h.tape, h.output, h.size, fun k hk _ => h.block k hk⟩
theorem grown_keeps {w w' : World} {row : Option Nat} {S : Nat → Prop} (h : w.grownBy w' row) (hr : ∀ k, row = some k → S k) : Keeps S w w' :=
  ⟨h.os, h.tape, h.output, h.size, fun k hk hn => h.block k hk (fun e => hn (hr k e.symm))⟩
theorem set_keeps (w : World) (g j : Nat) (u : Value) : Keeps (fun k => k = g) w (w.setCell ⟨g, j, none⟩ u) := grown_keeps (setCell_grown _) (fun k e => by simpa using e.symm)
theorem Keeps.below {S : Nat → Prop} {B : Nat} {w w' : World} (h : Keeps S w w') (hS : ∀ k, S k → B ≤ k) (hB : B ≤ w.heap.size) : Below B w w' :=
  ⟨h.os, h.tape, h.output, h.size, fun k hk => h.block k (by omega) (fun hs => by have := hS k hs; omega)⟩
theorem Keeps.cell {S : Nat → Prop} {w w' : World} (h : Keeps S w w') {p : Addr} (hp : p.block < w.heap.size) (hn : ¬ S p.block) : w'.cell? p = w.cell? p := World.cell?_of_block (w := w) (h.block p.block hp hn)
theorem ownsRow_keeps {S : Nat → Prop} {w w' : World} {base : Nat} {e : TypeId} {n : Nat} {v : Value} {m : Nat} {xs : List Value} (h : w.ownsRow base e n v m xs) (hk : Keeps S w w') (hn : ∀ g, v.ownBlock = some g → ¬ S g) : w'.ownsRow base e n v m xs := by
  refine ⟨h.1, ?_⟩
  rcases h.2 with h0 | ⟨g, cap, cur, rfl, hb, hgg, rest⟩
  · exact .inl h0
  · exact .inr ⟨g, cap, cur, rfl, hb, (hk.block g (Array.getElem?_eq_some_iff.1 hgg).1 (hn g rfl)).trans hgg, rest⟩
theorem Fl.keeps {S : Nat → Prop} {w w' : World} {v : Value} {fs : List (ByteArray × ByteArray)} (h : Fl w v fs) (hk : Keeps S w w') (hn : ∀ g, v.ownBlock = some g → ¬ S g) : Fl w' v fs := by
  obtain ⟨va, cap, h1, h2, h3⟩ := h
  refine ⟨va, cap, h1, h2, fun i hi => ?_⟩
  obtain ⟨g, e, hg, c0, c1⟩ := h3 i hi
  have hg' : ¬ S g := hn g (by rw [h1, e]; rfl)
  exact ⟨g, e, Nat.lt_of_lt_of_le hg hk.size, (hk.cell (p := ⟨g, _, none⟩) hg hg').trans c0, (hk.cell (p := ⟨g, _, none⟩) hg hg').trans c1⟩
theorem Mir.keeps {S : Nat → Prop} {w w' : World} {m : Nat} {room : Int} {lo hi : Nat} {v v2 : Value} {fs : List (ByteArray × ByteArray)} {down : Bool} (h : Mir w m room lo hi v v2 fs down) (hk : Keeps S w w') (hm : ¬ S m) (hn : ∀ k, lo ≤ k → k < hi → ¬ S k) : Mir w' m room lo hi v v2 fs down :=
  ⟨(hk.block m h.lt hm).trans h.blk, h.tr.same (Nat.le_trans h.tr.1 hk.size) fun k h1 h2 => hk.block k (Nat.lt_of_lt_of_le h2 h.tr.1) (hn k h1 h2), h.off, h.sl⟩
theorem RMb.keeps {S : Nat → Prop} {w w' : World} {r : Nat} {T N : Value} {room : Int} {down : Bool} (h : RMb w r T room down N) (hk : Keeps S w w') (hn : ¬ S r) : RMb w' r T room down N := (hk.block r h.lt hn).trans h

/-- a mirror on both sides -/
structure MS where
  m : Nat
  r : Nat
  room : Int
  lo : Nat
  hi : Nat
  v : Value
  v2 : Value
  fs : List (ByteArray × ByteArray)
  down : Bool
  T : Value
  N : Value
/-- where the reference's tree lies that counts -/
def MS.cur (x : MS) : Value := match x.down with | true => x.N | false => x.T
structure MsOk (w : World) (ρ : Nat → Nat) (i : Nat) (x : MS) : Prop where
  mir : Mir w x.m x.room x.lo x.hi x.v x.v2 x.fs x.down
  ref : RMb w x.r x.T x.room x.down x.N
  tsl : ∃ a n c, x.T = .slice a n c
  nsl : ∃ a n c, x.N = .slice a n c
  fl : Fl w x.cur x.fs
  tree : TreeOk x.fs
  r0 : 0 ≤ x.room
  r1 : x.room ≤ 1048576
  rm : ρ x.m = 2 * i + 7
  rr : ρ x.r = 2 * i + 8
  cold : ∀ k, x.lo ≤ k → k < x.hi → ρ k = 0
  coldf : ∀ g, x.cur.ownBlock = some g → ρ g = 0
theorem MsOk.keeps {S : Nat → Prop} {w w' : World} {ρ ρ' : Nat → Nat} {i : Nat} {x : MS} (h : MsOk w ρ i x) (hk : Keeps S w w') (hS : ∀ k, S k → ρ k ≠ 0 ∧ ρ k ≠ 2 * i + 7 ∧ ρ k ≠ 2 * i + 8) (he : ∀ k, k < w.heap.size → ρ k = 0 ∨ ρ k = 2 * i + 7 ∨ ρ k = 2 * i + 8 → ρ' k = ρ k) (hf : ∀ g, x.cur.ownBlock = some g → g < w.heap.size) : MsOk w' ρ' i x := by
  have hm : ¬ S x.m := fun h' => (hS _ h').2.1 h.rm
  have hr : ¬ S x.r := fun h' => (hS _ h').2.2 h.rr
  refine ⟨h.mir.keeps hk hm (fun k a b h' => (hS k h').1 (h.cold k a b)), h.ref.keeps hk hr, h.tsl, h.nsl, h.fl.keeps hk (fun g hg h' => (hS g h').1 (h.coldf g hg)), h.tree, h.r0, h.r1, ?_, ?_, ?_, ?_⟩
  · rw [he _ h.mir.lt (.inr (.inl h.rm)), h.rm]
  · rw [he _ h.ref.lt (.inr (.inr h.rr)), h.rr]
  · intro k a b
    rw [he k (Nat.lt_of_lt_of_le b h.mir.tr.1) (.inl (h.cold k a b)), h.cold k a b]
  · intro g hg
    rw [he g (hf g hg) (.inl (h.coldf g hg)), h.coldf g hg]

/-- data that came out, and that the caller has written into -/
def OutOk (w : World) (ρ : Nat → Nat) (u : Value) : Prop := u = .slice none 0 0 ∨ ∃ g n c, u = .slice (some ⟨g, 0, none⟩) n c ∧ c ≤ 9223372036854775807 ∧ g < w.heap.size ∧ ρ g = 0 ∧ All99 w g c
theorem OutOk.keeps {S : Nat → Prop} {w w' : World} {ρ ρ' : Nat → Nat} {u : Value} (h : OutOk w ρ u) (hk : Keeps S w w') (hS : ∀ k, S k → ρ k ≠ 0) (he : ∀ k, k < w.heap.size → ρ k = 0 → ρ' k = ρ k) : OutOk w' ρ' u := by
  rcases h with h | ⟨g, n, c, hu, hc, hlt, hg, cs, h1, h2, h3⟩
  · exact .inl h
  · exact .inr ⟨g, n, c, hu, hc, Nat.lt_of_lt_of_le hlt hk.size, by rw [he g hlt hg, hg], cs, (hk.block g hlt (fun h' => hS g h' hg)).trans h1, h2, h3⟩

def TreeAt (w : World) (ρ : Nat → Nat) (K : Nat) (p : Value × List (ByteArray × ByteArray)) : Prop := Fl w p.1 p.2 ∧ p.2.length ≤ K ∧ (∀ q ∈ p.2, q.1.size ≤ 65536 ∧ q.2.size ≤ 65536) ∧ ∀ g, p.1.ownBlock = some g → g < w.heap.size ∧ ρ g = 0
theorem TreeAt.keeps {S : Nat → Prop} {w w' : World} {ρ ρ' : Nat → Nat} {K K' : Nat} {p : Value × List (ByteArray × ByteArray)} (h : TreeAt w ρ K p) (hK : K ≤ K') (hk : Keeps S w w') (hS : ∀ k, S k → ρ k ≠ 0) (he : ∀ k, k < w.heap.size → ρ k = 0 → ρ' k = ρ k) : TreeAt w' ρ' K' p := by
  obtain ⟨h1, h2, h3, h4⟩ := h
  refine ⟨h1.keeps hk (fun g hg h' => hS g h' (h4 g hg).2), Nat.le_trans h2 hK, h3, fun g hg => ⟨Nat.lt_of_lt_of_le (h4 g hg).1 hk.size, ?_⟩⟩
  rw [he g (h4 g hg).1 (h4 g hg).2, (h4 g hg).2]

/-- a list of the script's world, in a block of its own -/
def RowAt (w : World) (B0 : Nat) (ρ : Nat → Nat) (q : Nat) (e : TypeId) (n : Nat) (v : Value) (m : Nat) (xs : List Value) : Prop := w.ownsRow B0 e n v m xs ∧ ∀ g, v.ownBlock = some g → ρ g = q
theorem RowAt.keeps {S : Nat → Prop} {w w' : World} {B0 : Nat} {ρ ρ' : Nat → Nat} {q : Nat} {e : TypeId} {n : Nat} {v : Value} {m : Nat} {xs : List Value} (h : RowAt w B0 ρ q e n v m xs) (hk : Keeps S w w') (hS : ∀ k, S k → ρ k ≠ q) (he : ∀ k, k < w.heap.size → ρ k = q → ρ' k = q) : RowAt w' B0 ρ' q e n v m xs :=
  ⟨ownsRow_keeps h.1 hk (fun g hg h' => hS g h' (h.2 g hg)), fun g hg => he g (h.1.lt g hg).2 (h.2 g hg)⟩

/-- all that the script has made -/
structure St where
  vn : Value
  vt : Value
  vb : Value
  vm : Value
  vo : Value
  now : List (ByteArray × ByteArray)
  trees : List (Value × List (ByteArray × ByteArray))
  batches : List ByteArray
  ms : List MS
  out : List Value
def msCells (l : List MS) : List Value := l.flatMap fun x => [.pointer (some ⟨x.m, 0, none⟩), .pointer (some ⟨x.r, 0, none⟩)]
structure Inv (wz w : World) (B0 W0 K O : Nat) (ρ : Nat → Nat) (s : St) : Prop where
  blk : w.heap[W0]? = some (.cells #[s.vn, s.vt, s.vb, s.vm, s.vo] 33 (0, 0))
  b0 : B0 ≤ w.heap.size
  fr : Below B0 wz w
  r0 : ρ W0 = 1
  hot : ∀ k, ρ k ≠ 0 → B0 ≤ k ∧ k < w.heap.size
  rn : RowAt w B0 ρ 2 54 2 s.vn s.now.length (flCells s.now)
  rt : RowAt w B0 ρ 3 27 1 s.vt s.trees.length (s.trees.map Prod.fst)
  rb : RowAt w B0 ρ 4 9 1 s.vb s.batches.length (s.batches.map .string)
  rm : RowAt w B0 ρ 5 47 2 s.vm s.ms.length (msCells s.ms)
  ro : RowAt w B0 ρ 6 38 1 s.vo s.out.length s.out
  trees : ∀ p ∈ s.trees, TreeAt w ρ K p
  ms : ∀ i (h : i < s.ms.length), MsOk w ρ i s.ms[i]
  mf : ∀ x ∈ s.ms, ∀ g, x.cur.ownBlock = some g → g < w.heap.size
  out : ∀ u ∈ s.out, OutOk w ρ u
  kn : s.now.length ≤ K
  nz : ∀ q ∈ s.now, q.1.size ≤ 65536 ∧ q.2.size ≤ 65536
  kt : s.trees.length ≤ K
  kb : s.batches.length ≤ K
  bz : ∀ b ∈ s.batches, b.size ≤ 70000
  km : s.ms.length ≤ K
  ko : s.out.length ≤ O
theorem Inv.zero {w : World} {wz : World} {B0 W0 K O : Nat} {ρ : Nat → Nat} {s : St} (h : Inv wz w B0 W0 K O ρ s) : ∀ k, w.heap.size ≤ k → ρ k = 0 := fun k hk => by
  by_cases h0 : ρ k = 0
  · exact h0
  · have := h.hot k h0; omega
theorem Inv.lt {w : World} {wz : World} {B0 W0 K O : Nat} {ρ : Nat → Nat} {s : St} (h : Inv wz w B0 W0 K O ρ s) : W0 < w.heap.size := (Array.getElem?_eq_some_iff.1 h.blk).1
/-- nothing of it is touched -/
theorem Inv.keep {w w' : World} {wz : World} {B0 W0 K O K' O' : Nat} {ρ : Nat → Nat} {s : St} (h : Inv wz w B0 W0 K O ρ s) (hK : K ≤ K') (hO : O ≤ O') (hb : Keeps (fun _ => False) w w') : Inv wz w' B0 W0 K' O' ρ s :=
  { blk := (hb.block _ h.lt id).trans h.blk
    b0 := Nat.le_trans h.b0 hb.size
    fr := h.fr.trans (hb.below (fun _ hk => hk.elim) h.b0)
    r0 := h.r0
    hot := fun k hk => ⟨(h.hot k hk).1, Nat.lt_of_lt_of_le (h.hot k hk).2 hb.size⟩
    rn := h.rn.keeps hb (fun _ hk => hk.elim) (fun _ _ e => e)
    rt := h.rt.keeps hb (fun _ hk => hk.elim) (fun _ _ e => e)
    rb := h.rb.keeps hb (fun _ hk => hk.elim) (fun _ _ e => e)
    rm := h.rm.keeps hb (fun _ hk => hk.elim) (fun _ _ e => e)
    ro := h.ro.keeps hb (fun _ hk => hk.elim) (fun _ _ e => e)
    trees := fun p hp => (h.trees p hp).keeps hK hb (fun _ hk => hk.elim) (fun _ _ _ => rfl)
    ms := fun i hi => (h.ms i hi).keeps hb (fun _ hk => hk.elim) (fun _ _ _ => rfl) (h.mf _ (List.getElem_mem hi))
    mf := fun x hx g hg => Nat.lt_of_lt_of_le (h.mf x hx g hg) hb.size
    out := fun u hu => (h.out u hu).keeps hb (fun _ hk => hk.elim) (fun _ _ _ => rfl)
    kn := Nat.le_trans h.kn hK
    nz := h.nz
    kt := Nat.le_trans h.kt hK
    kb := Nat.le_trans h.kb hK
    bz := h.bz
    km := Nat.le_trans h.km hK
    ko := Nat.le_trans h.ko hO }
/-- the roles behind an append: the block in which the list lies now -/
def rhoAt (ρ : Nat → Nat) (g q : Nat) (k : Nat) : Nat := if k = g then q else ρ k

theorem world_set {w : World} {W0 : Nat} {a b c d e x : Value} {j : Nat} (h : w.heap[W0]? = some (.cells #[a, b, c, d, e] 33 (0, 0))) : (w.setCell ⟨W0, j, none⟩ x).heap[W0]? = some (.cells (#[a, b, c, d, e].set! j x) 33 (0, 0)) := heap_setCell_same _ _ _ _ _ _ h

/-- what holds behind a step that changes blocks of the roles Q alone -/
structure Rest (wz w w' : World) (B0 W0 K : Nat) (ρ' : Nat → Nat) (Q : Nat → Prop) (s : St) : Prop where
  b0 : B0 ≤ w'.heap.size
  fr : Below B0 wz w'
  r0 : ρ' W0 = 1
  hot : ∀ k, ρ' k ≠ 0 → B0 ≤ k ∧ k < w'.heap.size
  rn : ¬ Q 2 → RowAt w' B0 ρ' 2 54 2 s.vn s.now.length (flCells s.now)
  rt : ¬ Q 3 → RowAt w' B0 ρ' 3 27 1 s.vt s.trees.length (s.trees.map Prod.fst)
  rb : ¬ Q 4 → RowAt w' B0 ρ' 4 9 1 s.vb s.batches.length (s.batches.map .string)
  rm : ¬ Q 5 → RowAt w' B0 ρ' 5 47 2 s.vm s.ms.length (msCells s.ms)
  ro : ¬ Q 6 → RowAt w' B0 ρ' 6 38 1 s.vo s.out.length s.out
  trees : ∀ p ∈ s.trees, TreeAt w' ρ' K p
  ms : ∀ i (h : i < s.ms.length), ¬ Q (2 * i + 7) → ¬ Q (2 * i + 8) → MsOk w' ρ' i s.ms[i]
  mf : ∀ x ∈ s.ms, ∀ g, x.cur.ownBlock = some g → g < w'.heap.size
  out : ∀ u ∈ s.out, OutOk w' ρ' u
theorem Inv.rest {w w' : World} {wz : World} {B0 W0 K O : Nat} {ρ ρ' : Nat → Nat} {s : St} (h : Inv wz w B0 W0 K O ρ s) (Q : Nat → Prop) (h0 : ¬ Q 0) (hk : Keeps (fun k => Q (ρ k)) w w') (he : ∀ k, k < w.heap.size → ρ k = 1 ∨ ¬ Q (ρ k) → ρ' k = ρ k) (hot : ∀ k, ρ' k ≠ 0 → B0 ≤ k ∧ k < w'.heap.size) : Rest wz w w' B0 W0 K ρ' Q s := by
  have hz : ∀ k, k < w.heap.size → ρ k = 0 → ρ' k = ρ k := fun k h1 h2 => he k h1 (.inr (by rw [h2]; exact h0))
  have hS : ∀ k, Q (ρ k) → ρ k ≠ 0 := fun k h' e => h0 (e ▸ h')
  have hrow : ∀ p, ¬ Q p → ∀ k, k < w.heap.size → ρ k = p → ρ' k = p := fun p hp k h1 h2 => (he k h1 (.inr (by rw [h2]; exact hp))).trans h2
  have hrw : ∀ p, ¬ Q p → ∀ k, Q (ρ k) → ρ k ≠ p := fun p hp k h' e => hp (e ▸ h')
  refine ⟨Nat.le_trans h.b0 hk.size, h.fr.trans (hk.below (fun k hq => (h.hot k (hS k hq)).1) h.b0), (he W0 h.lt (.inl h.r0)).trans h.r0, hot, fun hn => h.rn.keeps hk (hrw 2 hn) (hrow 2 hn), fun hn => h.rt.keeps hk (hrw 3 hn) (hrow 3 hn), fun hn => h.rb.keeps hk (hrw 4 hn) (hrow 4 hn), fun hn => h.rm.keeps hk (hrw 5 hn) (hrow 5 hn), fun hn => h.ro.keeps hk (hrw 6 hn) (hrow 6 hn), fun p hp => (h.trees p hp).keeps (Nat.le_refl _) hk hS hz, fun i hi h7 h8 => (h.ms i hi).keeps hk (fun k h' => ⟨hS k h', hrw _ h7 k h', hrw _ h8 k h'⟩) ?_ (h.mf _ (List.getElem_mem hi)), fun x hx g hg => Nat.lt_of_lt_of_le (h.mf x hx g hg) hk.size, fun u hu => (h.out u hu).keeps hk hS hz⟩
  rintro k h1 (h2 | h2 | h2)
  · exact hz k h1 h2
  · exact he k h1 (.inr (by rw [h2]; exact h7))
  · exact he k h1 (.inr (by rw [h2]; exact h8))
theorem rhoAt_eq {ρ : Nat → Nat} {w : World} {g q : Nat} (_hq : q ≠ 1) (hg : ρ g = q ∨ w.heap.size ≤ g) : ∀ k, k < w.heap.size → ρ k = 1 ∨ ¬ (ρ k = 1 ∨ ρ k = q) → rhoAt ρ g q k = ρ k := by
  intro k h1 h2
  unfold rhoAt
  by_cases e : k = g
  · subst e; rw [if_pos rfl]; omega
  · rw [if_neg e]
theorem Inv.hotAt {w w' : World} {wz : World} {B0 W0 K O : Nat} {ρ : Nat → Nat} {s : St} (h : Inv wz w B0 W0 K O ρ s) {q g : Nat} (_hq : q ≠ 0) (hs : w.heap.size ≤ w'.heap.size) (hg : ρ g = q ∨ w.heap.size ≤ g) (hgw : g < w'.heap.size) : ∀ k, rhoAt ρ g q k ≠ 0 → B0 ≤ k ∧ k < w'.heap.size := by
  intro k hk
  unfold rhoAt at hk
  by_cases e : k = g
  · subst e
    refine ⟨?_, hgw⟩
    rcases hg with h' | h'
    · exact (h.hot k (by omega)).1
    · exact Nat.le_trans h.b0 h'
  · rw [if_neg e] at hk
    exact ⟨(h.hot k hk).1, Nat.lt_of_lt_of_le (h.hot k hk).2 hs⟩
/-- the world's block, and the append's -/
theorem Inv.push_keeps {w w3 : World} {wz : World} {B0 W0 K O : Nat} {ρ : Nat → Nat} {s : St} (h : Inv wz w B0 W0 K O ρ s) {q j : Nat} {v u : Value} (hg : w.grownBy w3 v.ownBlock) (hv : ∀ g, v.ownBlock = some g → ρ g = q) : Keeps (fun k => ρ k = 1 ∨ ρ k = q) w (w3.setCell ⟨W0, j, none⟩ u) := by
  refine (grown_keeps hg (fun k e => .inr (hv k e))).trans (set_keeps w3 W0 j u) ?_
  rintro k _ rfl
  exact .inl h.r0
theorem row_set {w : World} {B0 W0 j : Nat} {e : TypeId} {n : Nat} {v u : Value} {m : Nat} {xs : List Value} (h : w.ownsRow B0 e n v m xs) (hne : v.ownBlock ≠ some W0) : (w.setCell ⟨W0, j, none⟩ u).ownsRow B0 e n v m xs :=
  ownsRow_keeps h (set_keeps w W0 j u) (fun _ hg e => hne (e ▸ hg))
theorem Inv.blk3 {w w3 : World} {wz : World} {B0 W0 K O : Nat} {ρ : Nat → Nat} {s : St} (h : Inv wz w B0 W0 K O ρ s) {q : Nat} {v : Value} (hq : q ≠ 1) (hg : w.grownBy w3 v.ownBlock) (hv : ∀ g, v.ownBlock = some g → ρ g = q) : w3.heap[W0]? = some (.cells #[s.vn, s.vt, s.vb, s.vm, s.vo] 33 (0, 0)) :=
  (hg.block W0 h.lt (fun e => by have := hv W0 e.symm; have := h.r0; omega)).trans h.blk
theorem Inv.ne {w : World} {wz : World} {B0 W0 K O : Nat} {ρ : Nat → Nat} {s : St} (h : Inv wz w B0 W0 K O ρ s) {q g : Nat} (hq : q ≠ 1) (hg : ρ g = q ∨ w.heap.size ≤ g) : g ≠ W0 := by
  rintro rfl
  have := h.lt
  have := h.r0
  omega
theorem Inv.pushNow {w w3 : World} {wz : World} {B0 W0 K O : Nat} {ρ : Nat → Nat} {s : St} (h : Inv wz w B0 W0 K O ρ s) {g c : Nat} (p : ByteArray × ByteArray) (hown : w3.ownsRow B0 54 2 (.slice (some ⟨g, 0, none⟩) (s.now.length + 1) c) (s.now.length + 1) (flCells s.now ++ [.string p.1, .string p.2])) (hg : w.grownBy w3 s.vn.ownBlock) (hat : s.vn.ownBlock = some g ∨ w.heap.size ≤ g) (hgw : g < w3.heap.size) (hp : p.1.size ≤ 65536 ∧ p.2.size ≤ 65536) :
    Inv wz (w3.setCell ⟨W0, 0, none⟩ (.slice (some ⟨g, 0, none⟩) (s.now.length + 1) c)) B0 W0 (K + 1) O (rhoAt ρ g 2) { s with vn := .slice (some ⟨g, 0, none⟩) (s.now.length + 1) c, now := s.now ++ [p] } := by
  have hat' : ρ g = 2 ∨ w.heap.size ≤ g := hat.imp (fun e => h.rn.2 g e) id
  have hr := h.rest (fun x => x = 1 ∨ x = 2) (by omega) (h.push_keeps (j := 0) (u := .slice (some ⟨g, 0, none⟩) (s.now.length + 1) c) hg h.rn.2) (rhoAt_eq (by omega) hat') (h.hotAt (by omega) (by simpa using hg.size) hat' (by simpa using hgw))
  have hne := h.ne (by omega) hat'
  refine ⟨world_set (h.blk3 (by omega) hg h.rn.2), hr.b0, hr.fr, hr.r0, hr.hot, ⟨?_, ?_⟩, hr.rt (by omega), hr.rb (by omega), hr.rm (by omega), hr.ro (by omega), fun q hq => (hr.trees q hq).keeps (Nat.le_succ K) (Keeps.refl (fun _ => False) _) (fun _ hk => hk.elim) (fun _ _ _ => rfl), fun i hi => hr.ms i hi (by omega) (by omega), hr.mf, hr.out, ?_, ?_, Nat.le_succ_of_le h.kt, Nat.le_succ_of_le h.kb, h.bz, Nat.le_succ_of_le h.km, h.ko⟩
  · show World.ownsRow _ _ _ _ _ (s.now ++ [p]).length (flCells (s.now ++ [p]))
    rw [flCells_snoc, List.length_append]
    exact row_set hown (by simpa [Value.ownBlock] using hne)
  · intro k hk
    have : g = k := by simpa [Value.ownBlock] using hk
    simp [rhoAt, this]
  · show (s.now ++ [p]).length ≤ K + 1
    rw [List.length_append]; exact Nat.succ_le_succ h.kn
  · intro q hq
    rcases List.mem_append.1 hq with hq | hq
    · exact h.nz q hq
    · simp at hq; subst hq; exact hp
theorem Inv.pushBatch {w w3 : World} {wz : World} {B0 W0 K O : Nat} {ρ : Nat → Nat} {s : St} (h : Inv wz w B0 W0 K O ρ s) {g c : Nat} (p : ByteArray) (hown : w3.ownsRow B0 9 1 (.slice (some ⟨g, 0, none⟩) (s.batches.length + 1) c) (s.batches.length + 1) (s.batches.map .string ++ [.string p])) (hg : w.grownBy w3 s.vb.ownBlock) (hat : s.vb.ownBlock = some g ∨ w.heap.size ≤ g) (hgw : g < w3.heap.size) (hp : p.size ≤ 70000) :
    Inv wz (w3.setCell ⟨W0, 2, none⟩ (.slice (some ⟨g, 0, none⟩) (s.batches.length + 1) c)) B0 W0 (K + 1) O (rhoAt ρ g 4) { s with vb := .slice (some ⟨g, 0, none⟩) (s.batches.length + 1) c, batches := s.batches ++ [p] } := by
  have hat' : ρ g = 4 ∨ w.heap.size ≤ g := hat.imp (fun e => h.rb.2 g e) id
  have hr := h.rest (fun x => x = 1 ∨ x = 4) (by omega) (h.push_keeps (j := 2) (u := .slice (some ⟨g, 0, none⟩) (s.batches.length + 1) c) hg h.rb.2) (rhoAt_eq (by omega) hat') (h.hotAt (by omega) (by simpa using hg.size) hat' (by simpa using hgw))
  have hne := h.ne (by omega) hat'
  refine ⟨world_set (h.blk3 (by omega) hg h.rb.2), hr.b0, hr.fr, hr.r0, hr.hot, hr.rn (by omega), hr.rt (by omega), ⟨?_, ?_⟩, hr.rm (by omega), hr.ro (by omega), fun q hq => (hr.trees q hq).keeps (Nat.le_succ K) (Keeps.refl (fun _ => False) _) (fun _ hk => hk.elim) (fun _ _ _ => rfl), fun i hi => hr.ms i hi (by omega) (by omega), hr.mf, hr.out, Nat.le_succ_of_le h.kn, h.nz, Nat.le_succ_of_le h.kt, ?_, ?_, Nat.le_succ_of_le h.km, h.ko⟩
  · show World.ownsRow _ _ _ _ _ (s.batches ++ [p]).length ((s.batches ++ [p]).map .string)
    rw [List.map_append, List.length_append]
    exact row_set hown (by simpa [Value.ownBlock] using hne)
  · intro k hk
    have : g = k := by simpa [Value.ownBlock] using hk
    simp [rhoAt, this]
  · show (s.batches ++ [p]).length ≤ K + 1
    rw [List.length_append]; exact Nat.succ_le_succ h.kb
  · intro q hq
    rcases List.mem_append.1 hq with hq | hq
    · exact h.bz q hq
    · simp at hq; subst hq; exact hp
theorem Inv.pushOut {w w3 : World} {wz : World} {B0 W0 K O : Nat} {ρ : Nat → Nat} {s : St} (h : Inv wz w B0 W0 K O ρ s) {g c : Nat} (p : Value) (hown : w3.ownsRow B0 38 1 (.slice (some ⟨g, 0, none⟩) (s.out.length + 1) c) (s.out.length + 1) (s.out ++ [p])) (hg : w.grownBy w3 s.vo.ownBlock) (hat : s.vo.ownBlock = some g ∨ w.heap.size ≤ g) (hgw : g < w3.heap.size) (hp : OutOk w ρ p) :
    Inv wz (w3.setCell ⟨W0, 4, none⟩ (.slice (some ⟨g, 0, none⟩) (s.out.length + 1) c)) B0 W0 K (O + 1) (rhoAt ρ g 6) { s with vo := .slice (some ⟨g, 0, none⟩) (s.out.length + 1) c, out := s.out ++ [p] } := by
  have hat' : ρ g = 6 ∨ w.heap.size ≤ g := hat.imp (fun e => h.ro.2 g e) id
  have hkp := h.push_keeps (j := 4) (u := .slice (some ⟨g, 0, none⟩) (s.out.length + 1) c) hg h.ro.2
  have hr := h.rest (fun x => x = 1 ∨ x = 6) (by omega) hkp (rhoAt_eq (by omega) hat') (h.hotAt (by omega) (by simpa using hg.size) hat' (by simpa using hgw))
  have hne := h.ne (by omega) hat'
  refine ⟨world_set (h.blk3 (by omega) hg h.ro.2), hr.b0, hr.fr, hr.r0, hr.hot, hr.rn (by omega), hr.rt (by omega), hr.rb (by omega), hr.rm (by omega), ⟨?_, ?_⟩, hr.trees, fun i hi => hr.ms i hi (by omega) (by omega), hr.mf, ?_, h.kn, h.nz, h.kt, h.kb, h.bz, h.km, ?_⟩
  · show World.ownsRow _ _ _ _ _ (s.out ++ [p]).length (s.out ++ [p])
    rw [List.length_append]
    exact row_set hown (by simpa [Value.ownBlock] using hne)
  · intro k hk
    have : g = k := by simpa [Value.ownBlock] using hk
    simp [rhoAt, this]
  · intro u hu
    rcases List.mem_append.1 hu with hu | hu
    · exact hr.out u hu
    · simp at hu; subst hu
      exact hp.keeps hkp (fun k hk => by omega) (fun k hk h' => rhoAt_eq (by omega) hat' k hk (.inr (by omega)))
  · show (s.out ++ [p]).length ≤ O + 1
    rw [List.length_append]; exact Nat.succ_le_succ h.ko
end Go.Proofs.YtbhccdedcoajmaaGreatDoor

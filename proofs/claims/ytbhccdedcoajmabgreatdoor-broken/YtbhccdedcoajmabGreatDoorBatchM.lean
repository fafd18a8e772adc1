import Derived.Test.YtbhccdedcoajmabGreatDoorMade
import Derived.Test.YtbhccdedcoajmabGreatDoorMathM
import Derived.Lib.BufferWrite
import Derived.Laws.MakeOwn
import Derived.Laws.Rows
namespace Go.Proofs.YtbhccdedcoajmabGreatDoor
open Go Go.RowKit

/-- a number in n bytes, the highest first -/
def putN : Nat → Int → List Int
  | 0, _ => []
  | n + 1, v => v / 256 ^ n % 256 :: putN n v
/-- the number that bytes say -/
def getN (l : List Int) : Int := l.foldl (fun v x => 256 * v + x) 0
theorem putN_length (n : Nat) (v : Int) : (putN n v).length = n := by
  induction n with
  | zero => rfl
  | succ n ih => simp [putN, ih]
theorem putN_bytes (n : Nat) (v : Int) : Bytes (putN n v) := by
  induction n with
  | zero => intro x hx; simp [putN] at hx
  | succ n ih =>
    intro x hx
    simp only [putN, List.mem_cons] at hx
    rcases hx with rfl | hx
    · omega
    · exact ih x hx
theorem getN_snoc (l : List Int) (x : Int) : getN (l ++ [x]) = 256 * getN l + x := by simp [getN, List.foldl_append]
theorem foldl_put (n : Nat) : ∀ (v a : Int), 0 ≤ v → (putN n v).foldl (fun v x => 256 * v + x) a = 256 ^ n * a + v % 256 ^ n := by
  induction n with
  | zero => intro v a _; simp [putN]
  | succ n ih =>
    intro v a hv
    simp only [putN, List.foldl_cons]
    rw [ih v _ hv]
    obtain ⟨k, rfl⟩ : ∃ k : Nat, v = k := ⟨v.toNat, by omega⟩
    have e : (k : Int) % (256 ^ n * 256) = (k : Int) % 256 ^ n + 256 ^ n * ((k : Int) / 256 ^ n % 256) := by
      have hP : (256 : Int) ^ n = ((256 ^ n : Nat) : Int) := (Int.natCast_pow 256 n).symm
      rw [hP]
      generalize 256 ^ n = P
      have h := congrArg (fun x : Nat => (x : Int)) (Nat.mod_mul : k % (P * 256) = k % P + P * (k / P % 256))
      simp only [Int.natCast_emod, Int.natCast_mul, Int.natCast_add, Int.natCast_ediv] at h
      exact h
    rw [Int.pow_succ, e, Int.mul_add, ← Int.mul_assoc, Int.add_assoc]
    omega
theorem getN_putN {n : Nat} {v : Int} (h0 : 0 ≤ v) (h1 : v < 256 ^ n) : getN (putN n v) = v := by
  unfold getN
  rw [foldl_put n v 0 h0, Int.mul_zero, Int.zero_add, Int.emod_eq_of_lt h0 h1]

/-- a file, as plain data -/
structure Fil where
  name : List Int
  data : List Int
def entryL (f : Fil) : List Int := (f.name.length : Int) :: (f.name ++ (putN 2 f.data.length ++ putN 8 (digestOf f.data)))
def tokL (t : Tok) : List Int := if t.count = 0 then 0 :: (t.data.length : Int) :: t.data else 1 :: (putN 2 t.block ++ [t.count])
def findL (l : List Fil) (name : List Int) : List Int := match l.find? (fun f => decide (f.name = name)) with | some f => f.data | none => []
def targetL (ref : List Fil) (B : Nat) (f : Fil) : List Int :=
  entryL f ++ (putN 2 (diffOf (findL ref f.name) f.data B).length ++ (diffOf (findL ref f.name) f.data B).flatMap tokL)
def bodyL (src ref : List Fil) (B : Nat) : List Int :=
  66 :: 65 :: 84 :: (B : Int) :: (ref.length : Int) :: (ref.flatMap entryL ++ ((src.length : Int) :: src.flatMap (targetL ref B)))
def recordL (src ref : List Fil) (B : Nat) : List Int := bodyL src ref B ++ putN 8 (digestOf (bodyL src ref B))

/-- is it a name? -/
def nameB (l : List Int) : Bool := decide (1 ≤ l.length) && decide (l.length ≤ 12) && l.all fun c => decide (97 ≤ c ∧ c ≤ 122) || decide (48 ≤ c ∧ c ≤ 57) || decide (c = 46) || decide (c = 47)
/-- texts by their bytes -/
def ltL : List Int → List Int → Bool
  | [], [] => false
  | [], _ :: _ => true
  | _ :: _, [] => false
  | a :: r, b :: s => decide (a < b) || (decide (a = b) && ltL r s)
end Go.Proofs.YtbhccdedcoajmabGreatDoor
namespace Go.Proofs.YtbhccdedcoajmabGreatDoor
open Go Go.RowKit

/-- what is told of a file -/
structure EntL where
  name : List Int
  size : Int
  digest : Int
structure BatL where
  block : Int
  basis : List EntL
  targets : List (EntL × List Tok)

def numP (n : Nat) (l : List Int) : Option (Int × List Int) := if l.length < n then none else some (getN (l.take n), l.drop n)
def txtP (n : Nat) (l : List Int) : Option (List Int × List Int) := if l.length < n then none else some (l.take n, l.drop n)

def entryP (first : Bool) (last l : List Int) : Option (EntL × List Int) := do
  let (n, l) ← numP 1 l
  let (name, l) ← txtP n.toNat l
  if nameB name && (first || ltL last name) then
    let (size, l) ← numP 2 l
    if size ≤ 300 then
      let (d, l) ← numP 8 l
      some (⟨name, size, d⟩, l)
    else none
  else none
def basisP : Nat → Bool → List Int → List Int → Option (List EntL × List Int)
  | 0, _, _, l => some ([], l)
  | n + 1, first, last, l => do
    let (e, l) ← entryP first last l
    let (r, l) ← basisP n false e.name l
    some (e :: r, l)
/-- how many bytes a token makes -/
def madeP (size B : Nat) (t : Tok) : Int := if t.count = 0 then t.data.length else min ((t.block + t.count) * B) size - t.block * B
def tokP (size B : Nat) (l : List Int) : Option (Tok × List Int) := do
  let (kind, l) ← numP 1 l
  if kind = 0 then
    let (k, l) ← numP 1 l
    if 0 < k then
      let (t, l) ← txtP k.toNat l
      some (⟨0, 0, t⟩, l)
    else none
  else if kind = 1 then
    let (b, l) ← numP 2 l
    let (k, l) ← numP 1 l
    if 0 < k ∧ b + k ≤ chunks size B then some (⟨b, k, []⟩, l) else none
  else none
def toksP (size B : Nat) : Nat → List Int → Option (List Tok × List Int)
  | 0, l => some ([], l)
  | n + 1, l => do
    let (t, l) ← tokP size B l
    let (r, l) ← toksP size B n l
    some (t :: r, l)
def sizeOfL (basis : List EntL) (name : List Int) : Int := basis.foldl (fun z e => if e.name = name then e.size else z) 0
def targetsP (basis : List EntL) (B : Nat) : Nat → Bool → List Int → List Int → Option (List (EntL × List Tok) × List Int)
  | 0, _, _, l => some ([], l)
  | n + 1, first, last, l => do
    let (e, l) ← entryP first last l
    let (k, l) ← numP 2 l
    let (ts, l) ← toksP (sizeOfL basis e.name).toNat B k.toNat l
    if (ts.map (madeP (sizeOfL basis e.name).toNat B)).sum = e.size then
      let (r, l) ← targetsP basis B n false e.name l
      some ((e, ts) :: r, l)
    else none
def readL (s : List Int) : Option BatL := do
  let (head, l) ← txtP 3 s
  if head = [66, 65, 84] then
    let (block, l) ← numP 1 l
    if 1 ≤ block ∧ block ≤ 64 then
      let (n, l) ← numP 1 l
      if n ≤ 8 then
        let (basis, l) ← basisP n.toNat true [] l
        let (m, l) ← numP 1 l
        if m ≤ 8 then
          let (targets, l) ← targetsP basis block.toNat m.toNat true [] l
          let (d, l') ← numP 8 l
          if l' = [] ∧ d = digestOf (s.take (s.length - l.length)) then some ⟨block, basis, targets⟩ else none
        else none
      else none
    else none
  else none
end Go.Proofs.YtbhccdedcoajmabGreatDoor
namespace Go.Proofs.YtbhccdedcoajmabGreatDoor
open Go.RowKit

def u8s (l : List Int) : List Value := l.map (Value.int .u8)
theorem u8s_nums (s : ByteArray) : Lib.byteCells s.data.toList = u8s (nums s) := by simp [Lib.byteCells, u8s, nums, Function.comp_def]
theorem cell_row {w : World} {b k : Nat} {cs : Array Value} {t : TypeId} {fr : Nat × Nat} {v : Value} (h : w.heap[b]? = some (.cells cs t fr)) (hk : cs[k]? = some v) : w.cell? ⟨b, k, none⟩ = some v := by
  simp [World.cell?, h, hk]
theorem Tryz.info5 : (Tryz.prog.info? 5).map (fun i => (i.zero, i.size, i.bytes)) = some (some (.int .u8 0), 1, 1) := by kernel_rfl
theorem Tryz.size5 : (Tryz.prog.info? 5).map (·.size) = some 1 := by kernel_rfl

theorem wpList_copy_run {P : Program} (w : World) {ops : Array Oper} {rest : List Oper} {o : Oper} {a : Act} {Q : Exit → Act → World → Prop} (hgd : o.guard = none) (d s : Operand) (t t' : TypeId)
    (ho : o.op = .call { callee := .builtin .copy, args := #[d, s], argTypes := #[t, t'] }) (v u : Value) (hd : a.eval d = v) (hs : a.eval s = u) {v' : Value} {w' : World}
    (hr : (Builtin.copy_ #[t, t'] o.type #[v, u]).run P w = .ok v' w') (h : wpList P ops Q rest (a.put o.dst v') w') : wpList P ops Q (o :: rest) a w :=
  wpList_plain hgd fun _ hK => by
    unfold Oper.wp execOp
    simp only [ho, resolve, invoke, builtin, Sem.run_bind, Sem.run_pure, Result.andThen_ok, List.map_toArray, List.map_cons, List.map_nil, hd, hs, hr]
    exact hK _ _ h

/-- the row that 'roomy' lays: the bytes, then the two marks -/
theorem roomy_row (l M : List Value) (x y : Value) (hM : M.length = l.length + 2) :
    (((l ++ M.drop l.length).toArray.set! l.length x).set! (l.length + 1) y) = (l ++ [x, y]).toArray := by
  obtain ⟨p, q, h⟩ : ∃ p q, M.drop l.length = [p, q] := by
    have h2 : (M.drop l.length).length = 2 := by rw [List.length_drop]; omega
    match M.drop l.length, h2 with
    | [p, q], _ => exact ⟨p, q, rfl⟩
  rw [h]; apply Array.ext'; simp

theorem row_cells {s : ByteArray} {b : Nat} {w : World} (hg : w.heap[b]? = some (.cells (u8s (nums s) ++ [Value.int .u8 77, Value.int .u8 88]).toArray 5 (0, 0))) :
    ∀ k (h : k < (nums s).length), w.cell? ⟨b, 0 + k, none⟩ = some (.int .u8 (nums s)[k]) := by
  intro k h
  rw [Nat.zero_add]
  refine cell_row hg ?_
  rw [List.getElem?_toArray, List.getElem?_append_left (by simpa [u8s] using h)]
  simp [u8s, List.getElem?_eq_getElem h]
end Go.Proofs.YtbhccdedcoajmabGreatDoor

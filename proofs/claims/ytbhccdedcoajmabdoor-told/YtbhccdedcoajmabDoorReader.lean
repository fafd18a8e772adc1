import Derived.Test.YtbhccdedcoajmabDoorBatch
namespace Go.Proofs.YtbhccdedcoajmabDoor
open Go Go.RowKit

/-- what is told of a file -/
structure EntL where
  name : List Int
  size : Int
  digest : Int
structure BatL where
  block : Int
  basis : List EntL
  targets : List (EntL × List Tok)

def numP (n : Nat) (l : List Int) : Option (Int × List Int) := if l.length < n then none else some (getN (l.take n), l.drop n)
def txtP (n : Nat) (l : List Int) : Option (List Int × List Int) := if l.length < n then none else some (l.take n, l.drop n)

def entryP (first : Bool) (last l : List Int) : Option (EntL × List Int) := do
  let (n, l) ← numP 1 l
  let (name, l) ← txtP n.toNat l
  if nameB name && (first || ltL last name) then
    let (size, l) ← numP 2 l
    if size ≤ 300 then
      let (d, l) ← numP 8 l
      some (⟨name, size, d⟩, l)
    else none
  else none
def basisP : Nat → Bool → List Int → List Int → Option (List EntL × List Int)
  | 0, _, _, l => some ([], l)
  | n + 1, first, last, l => do
    let (e, l) ← entryP first last l
    let (r, l) ← basisP n false e.name l
    some (e :: r, l)
/-- how many bytes a token makes -/
def madeP (size B : Nat) (t : Tok) : Int := if t.count = 0 then t.data.length else min ((t.block + t.count) * B) size - t.block * B
def tokP (size B : Nat) (l : List Int) : Option (Tok × List Int) := do
  let (kind, l) ← numP 1 l
  if kind = 0 then
    let (k, l) ← numP 1 l
    if 0 < k then
      let (t, l) ← txtP k.toNat l
      some (⟨0, 0, t⟩, l)
    else none
  else if kind = 1 then
    let (b, l) ← numP 2 l
    let (k, l) ← numP 1 l
    if 0 < k ∧ b + k ≤ chunks size B then some (⟨b, k, []⟩, l) else none
  else none
def toksP (size B : Nat) : Nat → List Int → Option (List Tok × List Int)
  | 0, l => some ([], l)
  | n + 1, l => do
    let (t, l) ← tokP size B l
    let (r, l) ← toksP size B n l
    some (t :: r, l)
def sizeOfL (basis : List EntL) (name : List Int) : Int := basis.foldl (fun z e => if e.name = name then e.size else z) 0
def targetsP (basis : List EntL) (B : Nat) : Nat → Bool → List Int → List Int → Option (List (EntL × List Tok) × List Int)
  | 0, _, _, l => some ([], l)
  | n + 1, first, last, l => do
    let (e, l) ← entryP first last l
    let (k, l) ← numP 2 l
    let (ts, l) ← toksP (sizeOfL basis e.name).toNat B k.toNat l
    if (ts.map (madeP (sizeOfL basis e.name).toNat B)).sum = e.size then
      let (r, l) ← targetsP basis B n false e.name l
      some ((e, ts) :: r, l)
    else none
def readL (s : List Int) : Option BatL := do
  let (head, l) ← txtP 3 s
  if head = [66, 65, 84] then
    let (block, l) ← numP 1 l
    if 1 ≤ block ∧ block ≤ 64 then
      let (n, l) ← numP 1 l
      if n ≤ 8 then
        let (basis, l) ← basisP n.toNat true [] l
        let (m, l) ← numP 1 l
        if m ≤ 8 then
          let (targets, l) ← targetsP basis block.toNat m.toNat true [] l
          let (d, l') ← numP 8 l
          if l' = [] ∧ d = digestOf (s.take (s.length - l.length)) then some ⟨block, basis, targets⟩ else none
        else none
      else none
    else none
  else none
end Go.Proofs.YtbhccdedcoajmabDoor

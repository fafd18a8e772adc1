import Derived.Test.YtbhccdedcoajmabDoorMade
namespace Go.Proofs.YtbhccdedcoajmabDoor
open Go Go.RowKit

/-- a number in n bytes, the highest first -/
def putN : Nat → Int → List Int
  | 0, _ => []
  | n + 1, v => v / 256 ^ n % 256 :: putN n v
/-- the number that bytes say -/
def getN (l : List Int) : Int := l.foldl (fun v x => 256 * v + x) 0
theorem putN_length (n : Nat) (v : Int) : (putN n v).length = n := by
  induction n with
  | zero => rfl
  | succ n ih => simp [putN, ih]
theorem putN_bytes (n : Nat) (v : Int) : Bytes (putN n v) := by
  induction n with
  | zero => intro x hx; simp [putN] at hx
  | succ n ih =>
    intro x hx
    simp only [putN, List.mem_cons] at hx
    rcases hx with rfl | hx
    · omega
    · exact ih x hx
theorem getN_snoc (l : List Int) (x : Int) : getN (l ++ [x]) = 256 * getN l + x := by simp [getN, List.foldl_append]
theorem foldl_put (n : Nat) : ∀ (v a : Int), 0 ≤ v → (putN n v).foldl (fun v x => 256 * v + x) a = 256 ^ n * a + v % 256 ^ n := by
  induction n with
  | zero => intro v a _; simp [putN]
  | succ n ih =>
    intro v a hv
    simp only [putN, List.foldl_cons]
    rw [ih v _ hv]
    obtain ⟨k, rfl⟩ : ∃ k : Nat, v = k := ⟨v.toNat, by omega⟩
    have e : (k : Int) % (256 ^ n * 256) = (k : Int) % 256 ^ n + 256 ^ n * ((k : Int) / 256 ^ n % 256) := by
      have hP : (256 : Int) ^ n = ((256 ^ n : Nat) : Int) := (Int.natCast_pow 256 n).symm
      rw [hP]
      generalize 256 ^ n = P
      have h := congrArg (fun x : Nat => (x : Int)) (Nat.mod_mul : k % (P * 256) = k % P + P * (k / P % 256))
      simp only [Int.natCast_emod, Int.natCast_mul, Int.natCast_add, Int.natCast_ediv] at h
      exact h
    rw [Int.pow_succ, e, Int.mul_add, ← Int.mul_assoc, Int.add_assoc]
    omega
theorem getN_putN {n : Nat} {v : Int} (h0 : 0 ≤ v) (h1 : v < 256 ^ n) : getN (putN n v) = v := by
  unfold getN
  rw [foldl_put n v 0 h0, Int.mul_zero, Int.zero_add, Int.emod_eq_of_lt h0 h1]

/-- a file, as plain data -/
structure Fil where
  name : List Int
  data : List Int
def entryL (f : Fil) : List Int := (f.name.length : Int) :: (f.name ++ (putN 2 f.data.length ++ putN 8 (digestOf f.data)))
def tokL (t : Tok) : List Int := if t.count = 0 then 0 :: (t.data.length : Int) :: t.data else 1 :: (putN 2 t.block ++ [t.count])
def findL (l : List Fil) (name : List Int) : List Int := match l.find? (fun f => decide (f.name = name)) with | some f => f.data | none => []
def targetL (ref : List Fil) (B : Nat) (f : Fil) : List Int :=
  entryL f ++ (putN 2 (diffOf (findL ref f.name) f.data B).length ++ (diffOf (findL ref f.name) f.data B).flatMap tokL)
def bodyL (src ref : List Fil) (B : Nat) : List Int :=
  66 :: 65 :: 84 :: (B : Int) :: (ref.length : Int) :: (ref.flatMap entryL ++ ((src.length : Int) :: src.flatMap (targetL ref B)))
def recordL (src ref : List Fil) (B : Nat) : List Int := bodyL src ref B ++ putN 8 (digestOf (bodyL src ref B))

/-- is it a name? -/
def nameB (l : List Int) : Bool := decide (1 ≤ l.length) && decide (l.length ≤ 12) && l.all fun c => decide (97 ≤ c ∧ c ≤ 122) || decide (48 ≤ c ∧ c ≤ 57) || decide (c = 46) || decide (c = 47)
/-- texts by their bytes -/
def ltL : List Int → List Int → Bool
  | [], [] => false
  | [], _ :: _ => true
  | _ :: _, [] => false
  | a :: r, b :: s => decide (a < b) || (decide (a = b) && ltL r s)
end Go.Proofs.YtbhccdedcoajmabDoor

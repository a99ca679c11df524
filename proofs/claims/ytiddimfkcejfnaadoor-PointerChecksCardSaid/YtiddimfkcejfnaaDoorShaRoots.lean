/- The document's roots as plain reckonings on whole numbers: a power in parts of 32 bits against its bound, the root by halves, the first primes; and that the program's two tables are these roots, by the kernel. No conditions. -/
import Derived.Test.YtiddimfkcejfnaaDoorShaKeys
namespace Go.Proofs.YtiddimfkcejfnaaDoor.Sha3

/-- Parts, the highest first, against a bound's. -/
def leB (l3 l2 l1 l0 m3 m2 m1 m0 : Int) : Bool :=
  if l3 = m3 then if l2 = m2 then if l1 = m1 then if l0 = m0 then true else decide (l0 < m0) else decide (l1 < m1) else decide (l2 < m2) else decide (l3 < m3)
/-- The square's parts. -/
def sqC (a b : Int) : Int := b * b / 4294967296 + 2 * a * b
def sq0 (b : Int) : Int := b * b % 4294967296
def sq1 (a b : Int) : Int := sqC a b % 4294967296
def sq2 (a b : Int) : Int := sqC a b / 4294967296 + a * a
/-- The cube's parts: what is carried, and what stays. -/
def cuX (i : Nat) (l m a b k : Int) : Int := (if i < 3 then k + l * b % 4294967296 else k) + (if 0 < i then m * a else 0)
def cuK (i : Nat) (l m a b k : Int) : Int := (if i < 3 then l * b / 4294967296 else 0) + cuX i l m a b k / 4294967296
def powerB (m p : Int) (cube : Bool) : Bool :=
  let a := m / 4294967296
  let b := m % 4294967296
  let l0 := sq0 b
  let l1 := sq1 a b
  let l2 := sq2 a b
  if cube then
    let k0 := cuK 0 l0 0 a b 0
    let k1 := cuK 1 l1 l0 a b k0
    let k2 := cuK 2 l2 l1 a b k1
    leB (cuX 3 0 l2 a b k2 % 4294967296) (cuX 2 l2 l1 a b k1 % 4294967296) (cuX 1 l1 l0 a b k0 % 4294967296) (cuX 0 l0 0 a b 0 % 4294967296) p 0 0 0
  else leB 0 l2 l1 l0 0 p 0 0
/-- The root by halves. -/
def rootGo (p : Int) (cube : Bool) : Nat → Int → Int → Int
  | 0, lo, _ => lo
  | f + 1, lo, hi => if powerB (lo + (hi - lo) / 2) p cube then rootGo p cube f (lo + (hi - lo) / 2) hi else rootGo p cube f lo (lo + (hi - lo) / 2)
def rootV (p : Int) (cube : Bool) : Int := rootGo p cube 36 0 68719476736 % 4294967296
/-- The first 64 primes. -/
def primesL : List Int := [2, 3, 5, 7, 11, 13, 17, 19, 23, 29, 31, 37, 41, 43, 47, 53, 59, 61, 67, 71, 73, 79, 83, 89, 97, 101, 103, 107, 109, 113, 127, 131, 137, 139, 149, 151, 157, 163, 167, 173, 179, 181, 191, 193, 197, 199, 211, 223, 227, 229, 233, 239, 241, 251, 257, 263, 269, 271, 277, 281, 283, 293, 307, 311]
set_option maxRecDepth 100000 in
theorem squares_are : (primesL.take 8).map (fun p => rootV p false) = h0W.map fun x => (x.toNat : Int) := by decide +kernel
set_option maxRecDepth 100000 in
theorem cubes_are : primesL.map (fun p => rootV p true) = kW.map fun x => (x.toNat : Int) := by decide +kernel
end Go.Proofs.YtiddimfkcejfnaaDoor.Sha3

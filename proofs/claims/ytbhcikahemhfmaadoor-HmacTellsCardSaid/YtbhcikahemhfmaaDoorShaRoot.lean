/- The document's roots as plain reckonings on whole numbers: a power in parts of 32 bits against its bound, the root by halves, the first primes; and that the program's two tables are these roots, by the kernel. No conditions. | The document's root, by halves, where power tells what the plain reckoning tells (a premise here: its contract stands elsewhere). -/
import Derived.Test.YtbhcikahemhfmaaDoorShaWords

namespace Go.Proofs.YtbhcikahemhfmaaDoor.Sha3

/-- Parts, the highest first, against a bound's. -/
def leB (l3 l2 l1 l0 m3 m2 m1 m0 : Int) : Bool :=
  if l3 = m3 then if l2 = m2 then if l1 = m1 then if l0 = m0 then true else decide (l0 < m0) else decide (l1 < m1) else decide (l2 < m2) else decide (l3 < m3)
/-- The square's parts. -/
def sqC (a b : Int) : Int := b * b / 4294967296 + 2 * a * b
def sq0 (b : Int) : Int := b * b % 4294967296
def sq1 (a b : Int) : Int := sqC a b % 4294967296
def sq2 (a b : Int) : Int := sqC a b / 4294967296 + a * a
/-- The cube's parts: what is carried, and what stays. -/
def cuX (i : Nat) (l m a b k : Int) : Int := (if i < 3 then k + l * b % 4294967296 else k) + (if 0 < i then m * a else 0)
def cuK (i : Nat) (l m a b k : Int) : Int := (if i < 3 then l * b / 4294967296 else 0) + cuX i l m a b k / 4294967296
def powerB (m p : Int) (cube : Bool) : Bool :=
  let a := m / 4294967296
  let b := m % 4294967296
  let l0 := sq0 b
  let l1 := sq1 a b
  let l2 := sq2 a b
  if cube then
    let k0 := cuK 0 l0 0 a b 0
    let k1 := cuK 1 l1 l0 a b k0
    let k2 := cuK 2 l2 l1 a b k1
    leB (cuX 3 0 l2 a b k2 % 4294967296) (cuX 2 l2 l1 a b k1 % 4294967296) (cuX 1 l1 l0 a b k0 % 4294967296) (cuX 0 l0 0 a b 0 % 4294967296) p 0 0 0
  else leB 0 l2 l1 l0 0 p 0 0
/-- The root by halves. -/
def rootGo (p : Int) (cube : Bool) : Nat → Int → Int → Int
  | 0, lo, _ => lo
  | f + 1, lo, hi => if powerB (lo + (hi - lo) / 2) p cube then rootGo p cube f (lo + (hi - lo) / 2) hi else rootGo p cube f lo (lo + (hi - lo) / 2)
def rootV (p : Int) (cube : Bool) : Int := rootGo p cube 36 0 68719476736 % 4294967296
/-- The first 64 primes. -/
def primesL : List Int := [2, 3, 5, 7, 11, 13, 17, 19, 23, 29, 31, 37, 41, 43, 47, 53, 59, 61, 67, 71, 73, 79, 83, 89, 97, 101, 103, 107, 109, 113, 127, 131, 137, 139, 149, 151, 157, 163, 167, 173, 179, 181, 191, 193, 197, 199, 211, 223, 227, 229, 233, 239, 241, 251, 257, 263, 269, 271, 277, 281, 283, 293, 307, 311]
set_option maxRecDepth 100000 in
theorem squares_are : (primesL.take 8).map (fun p => rootV p false) = h0W.map fun x => (x.toNat : Int) := by decide +kernel
set_option maxRecDepth 100000 in
theorem cubes_are : primesL.map (fun p => rootV p true) = kW.map fun x => (x.toNat : Int) := by decide +kernel
end Go.Proofs.YtbhcikahemhfmaaDoor.Sha3

namespace Go.Proofs.YtbhcikahemhfmaaDoor.Sha3
open Go.RowKit

/-- What is asked of power. -/
def PowerTells (p : Int) (cube : Bool) : Prop := ∀ (m : Int) (w : World), 0 ≤ m → m < 68719476736 → Calls Tryd.prog 36 #[.int .u64 m, .bool cube, .int .u64 p] w fun e w' => e = .returned (.bool (powerB m p cube)) ∧ Below w.heap.size w w'
def RoAt (p : Int) (cube : Bool) (R : Int) (w : World) (lo hi : Value) (wr : World) : Prop :=
  ∃ (f : Nat) (a b d : Int), lo = .int .u64 a ∧ hi = .int .u64 b ∧ 0 ≤ a ∧ b ≤ 68719476736 ∧ b = a + d ∧ d = 2 ^ f ∧ rootGo p cube f a b = R ∧ Below w.heap.size w wr
set_option maxHeartbeats 1000000 in
theorem root_any (p : Int) (cube : Bool) (w : World) (hp : PowerTells p cube) : Calls Tryd.prog 33 #[.int .u64 p, .bool cube] w fun e w' => e = .returned (.int .u32 (rootV p cube)) ∧ Below w.heap.size w w' := by
  obtain ⟨R, hR⟩ : ∃ R, rootGo p cube 36 0 68719476736 = R := ⟨_, rfl⟩
  have HR := Lib.hid hR
  have HP := Lib.hid hp
  clear hR hp
  go_enter Tryd.func33, Tryd.ntmps33
  go_wp2_with fail
  go_loopw [5, 6] (fun lo hi wr => RoAt p cube R w lo hi wr) (fun lo hi _ => (intOf hi - intOf lo).toNat)
  case atStart => exact ⟨36, 0, 68719476736, 68719476736, rfl, rfl, by omega, by omega, by omega, by decide, HR.out, Below.refl _ _⟩
  case round =>
    obtain ⟨f, a, b, d, rfl, rfl, ha, hb, rfl, hd, hg, hbl⟩ := hrel
    have HG := Lib.hid hg
    have HD := Lib.hid hd
    clear hg hd
    rcases Nat.eq_zero_or_pos f with rfl | hf
    · obtain rfl : d = 1 := HD.out
      have HA := Lib.hid (show a = R from HG.out)
      have HV := Lib.hid (show R % 4294967296 = rootV p cube by rw [← HR.out]; rfl)
      have hs : a + 1 - a = 1 := by omega
      go_wp2_with fail
      go_ret
      exact ⟨by rw [← HV.out, ← HA.out]; rfl, hbl⟩
    · obtain ⟨f, rfl⟩ : ∃ g, f = g + 1 := ⟨f - 1, by omega⟩
      obtain ⟨h, hh⟩ : ∃ h : Int, (2 : Int) ^ f = h := ⟨_, rfl⟩
      have hpos : 0 < h := by rw [← hh]; exact Int.pow_pos (by decide)
      obtain rfl : d = 2 * h := by rw [HD.out, ← hh, Int.pow_succ, Int.mul_comm]
      have HH := Lib.hid hh
      have he : 2 * h / 2 = h := by omega
      have hs : a + 2 * h - a = 2 * h := by omega
      have ht : decide ((1 : Int) < 2 * h) = true := by simp; omega
      have HS := Lib.hid (show rootGo p cube (f + 1) a (a + 2 * h) = if powerB (a + h) p cube then rootGo p cube f (a + h) (a + 2 * h) else rootGo p cube f a (a + h) by
        show (if powerB (a + (a + 2 * h - a) / 2) p cube then _ else _) = _
        rw [hs, he])
      clear hh HD
      go_wp2_with fail
      refine (HP.out (a + h) _ (by omega) (by omega)).mono ?_
      rintro e w1 ⟨rfl, hb1⟩
      have qb := hbl.trans (hb1.mono hbl.size)
      cases hc : powerB (a + h) p cube with
      | true =>
        have HC := Lib.hid hc
        clear hc hs he ht hbl hb1
        go_wp2_with fail
        refine ⟨⟨f, a + h, a + 2 * h, h, rfl, rfl, by omega, by omega, by omega, HH.out.symm, by rw [← HG.out, HS.out, HC.out]; rfl, qb⟩, ?_⟩
        simp [intOf]; omega
      | false =>
        have HC := Lib.hid hc
        clear hc hs he ht hbl hb1
        go_wp2_with fail
        refine ⟨⟨f, a, a + h, h, rfl, rfl, by omega, by omega, by omega, HH.out.symm, by rw [← HG.out, HS.out, HC.out]; rfl, qb⟩, ?_⟩
        simp [intOf]; omega
end Go.Proofs.YtbhcikahemhfmaaDoor.Sha3

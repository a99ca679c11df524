/- The document's root, by halves, where power tells what the plain reckoning tells (a premise here: its contract stands elsewhere). -/
import Derived.Test.YtiddimfkcejfnaaDoorShaRoots
import Derived.Test.YtiddimfkcejfnaaDoorShaRowsOf
namespace Go.Proofs.YtiddimfkcejfnaaDoor.Sha3
open Go.RowKit

/-- What is asked of power. -/
def PowerTells (p : Int) (cube : Bool) : Prop := ∀ (m : Int) (w : World), 0 ≤ m → m < 68719476736 → Calls Tryd.prog 49 #[.int .u64 m, .bool cube, .int .u64 p] w fun e w' => e = .returned (.bool (powerB m p cube)) ∧ Below w.heap.size w w'
def RoAt (p : Int) (cube : Bool) (R : Int) (w : World) (lo hi : Value) (wr : World) : Prop :=
  ∃ (f : Nat) (a b d : Int), lo = .int .u64 a ∧ hi = .int .u64 b ∧ 0 ≤ a ∧ b ≤ 68719476736 ∧ b = a + d ∧ d = 2 ^ f ∧ rootGo p cube f a b = R ∧ Below w.heap.size w wr
set_option maxHeartbeats 1000000 in
theorem root_any (p : Int) (cube : Bool) (w : World) (hp : PowerTells p cube) : Calls Tryd.prog 45 #[.int .u64 p, .bool cube] w fun e w' => e = .returned (.int .u32 (rootV p cube)) ∧ Below w.heap.size w w' := by
  obtain ⟨R, hR⟩ : ∃ R, rootGo p cube 36 0 68719476736 = R := ⟨_, rfl⟩
  have HR := Lib.hid hR
  have HP := Lib.hid hp
  clear hR hp
  go_enter Tryd.func45, Tryd.ntmps45
  go_wp2_with fail
  go_loopw [5, 6] (fun lo hi wr => RoAt p cube R w lo hi wr) (fun lo hi _ => (intOf hi - intOf lo).toNat)
  case atStart => exact ⟨36, 0, 68719476736, 68719476736, rfl, rfl, by omega, by omega, by omega, by decide, HR.out, Below.refl _ _⟩
  case round =>
    obtain ⟨f, a, b, d, rfl, rfl, ha, hb, rfl, hd, hg, hbl⟩ := hrel
    have HG := Lib.hid hg
    have HD := Lib.hid hd
    clear hg hd
    rcases Nat.eq_zero_or_pos f with rfl | hf
    · obtain rfl : d = 1 := HD.out
      have HA := Lib.hid (show a = R from HG.out)
      have HV := Lib.hid (show R % 4294967296 = rootV p cube by rw [← HR.out]; rfl)
      have hs : a + 1 - a = 1 := by omega
      go_wp2_with fail
      go_ret
      exact ⟨by rw [← HV.out, ← HA.out]; rfl, hbl⟩
    · obtain ⟨f, rfl⟩ : ∃ g, f = g + 1 := ⟨f - 1, by omega⟩
      obtain ⟨h, hh⟩ : ∃ h : Int, (2 : Int) ^ f = h := ⟨_, rfl⟩
      have hpos : 0 < h := by rw [← hh]; exact Int.pow_pos (by decide)
      obtain rfl : d = 2 * h := by rw [HD.out, ← hh, Int.pow_succ, Int.mul_comm]
      have HH := Lib.hid hh
      have he : 2 * h / 2 = h := by omega
      have hs : a + 2 * h - a = 2 * h := by omega
      have ht : decide ((1 : Int) < 2 * h) = true := by simp; omega
      have HS := Lib.hid (show rootGo p cube (f + 1) a (a + 2 * h) = if powerB (a + h) p cube then rootGo p cube f (a + h) (a + 2 * h) else rootGo p cube f a (a + h) by
        show (if powerB (a + (a + 2 * h - a) / 2) p cube then _ else _) = _
        rw [hs, he])
      clear hh HD
      go_wp2_with fail
      refine (HP.out (a + h) _ (by omega) (by omega)).mono ?_
      rintro e w1 ⟨rfl, hb1⟩
      have qb := hbl.trans (hb1.mono hbl.size)
      cases hc : powerB (a + h) p cube with
      | true =>
        have HC := Lib.hid hc
        clear hc hs he ht hbl hb1
        go_wp2_with fail
        refine ⟨⟨f, a + h, a + 2 * h, h, rfl, rfl, by omega, by omega, by omega, HH.out.symm, by rw [← HG.out, HS.out, HC.out]; rfl, qb⟩, ?_⟩
        simp [intOf]; omega
      | false =>
        have HC := Lib.hid hc
        clear hc hs he ht hbl hb1
        go_wp2_with fail
        refine ⟨⟨f, a, a + h, h, rfl, rfl, by omega, by omega, by omega, HH.out.symm, by rw [← HG.out, HS.out, HC.out]; rfl, qb⟩, ?_⟩
        simp [intOf]; omega
end Go.Proofs.YtiddimfkcejfnaaDoor.Sha3

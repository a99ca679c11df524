/- The document's None: for any pointer; nothing that was there is written. -/
import Derived.Test.YtcolicmefehcnaaDoorPtr
namespace Go.Proofs.YtcolicmefehcnaaDoor
open Go.RowKit

theorem none_false {p : Pt} (h : p.place ≠ 0 ∨ p.birth ≠ 0 ∨ p.len ≠ 0 ∨ p.crc ≠ 0 ∨ p.sha ≠ List.replicate 32 0) : false = p.none := by
  cases hn : p.none with
  | false => rfl
  | true =>
    have := (Pt.same_iff p Pt.zero).1 hn
    subst this
    simp [Pt.zero] at h
theorem none_true {p : Pt} (h0 : p.place = 0) (h1 : p.birth = 0) (h2 : p.len = 0) (h3 : p.crc = 0) (h4 : p.sha = List.replicate 32 0) : true = p.none := by
  have : p = Pt.zero := by cases p; simp_all [Pt.zero]
  rw [this]
  exact (Pt.same_self _).symm
/-- So many of the sum's bytes are zero. -/
def ZeroAt (l : List Int) (i : Value) : Prop := ∃ k : Nat, k ≤ 32 ∧ i = .int .i64 (k : Int) ∧ l.take k = List.replicate k 0
theorem zero_next {l : List Int} {k : Nat} (hk : k < l.length) (h : l.take k = List.replicate k 0) (hz : l.getD k 0 = 0) : l.take (k + 1) = List.replicate (k + 1) 0 := by
  rw [List.take_succ_eq_append_getElem hk, h, List.replicate_succ']
  rw [List.getD_eq_getElem?_getD, List.getElem?_eq_getElem hk] at hz
  rw [show l[k] = 0 from hz]

set_option maxHeartbeats 2000000 in
theorem refNone_any (p : Pt) (w : World) (hp : p.Ok) :
    Calls Tryd.prog 36 #[.agg (pcells p)] w fun e w' => e = .returned (.bool p.none) ∧ Below w.heap.size w w' := by
  have r1 := Row.new w 25 (pcells p)
  have b1 : Below w.heap.size w (w.alloc (.cells (pcells p) 25)) := (Below.refl _ _).alloc (Nat.le_refl _) _
  have c0 := row_place r1
  have c1 := row_birth r1
  have c2 := row_len r1
  have c3 := row_crc r1
  have Hs := Lib.hid (fun i (hi : i < p.sha.length) => r1.cell (pcells_sha p i hi))
  have Hl := Lib.hid hp.shaL
  clear hp r1
  by_cases h0 : p.place = 0
  · rw [h0] at c0
    by_cases h1 : p.birth = 0
    · rw [h1] at c1
      by_cases h2 : p.len = 0
      · rw [h2] at c2
        by_cases h3 : p.crc = 0
        · rw [h3] at c3
          have H0 := Lib.hid h0
          have H1 := Lib.hid h1
          have H2 := Lib.hid h2
          have H3 := Lib.hid h3
          clear h0 h1 h2 h3
          go_enter Tryd.func36, Tryd.ntmps36
          go_wp2_with fail
          go_loop [3] (fun i => ZeroAt p.sha i) (fun i => 32 - (intOf i).toNat)
          case atStart => exact ⟨0, by omega, rfl, by simp⟩
          case round =>
            obtain ⟨k, hk, rfl, hz⟩ := hrel
            have HZ := Lib.hid hz
            clear hz
            by_cases hlt : k < 32
            · have hk2 : k < p.sha.length := by have := Hl.out; omega
              have hc := Hs.out k hk2
              by_cases hx : p.sha.getD k 0 = 0
              · rw [hx] at hc
                have HX := Lib.hid hx
                clear hx
                go_wp2_with fail
                go_round
                case rel => exact ⟨k + 1, by omega, by go_num, zero_next hk2 HZ.out HX.out⟩
                case measure => simp [intOf]; omega
              · have HR := Lib.hid (none_false (p := p) (.inr (.inr (.inr (.inr (fun h => hx (by rw [h, List.getD_eq_getElem?_getD, List.getElem?_replicate, if_pos hlt]; rfl)))))))
                generalize p.sha.getD k 0 = x at *
                have hx1 : (x != 0) = true := by simpa using hx
                go_wp2_with fail
                go_ret
                exact ⟨by rw [← HR.out]; rfl, b1⟩
            · obtain rfl : k = 32 := by omega
              have HR := Lib.hid (none_true H0.out H1.out H2.out H3.out (by rw [← HZ.out, List.take_of_length_le (by rw [Hl.out]; exact Nat.le_refl _)]))
              go_wp2_with fail
              go_ret
              exact ⟨by rw [← HR.out]; rfl, b1⟩
        · have HR := Lib.hid (none_false (p := p) (.inr (.inr (.inr (.inl h3)))))
          have hx1 : (p.crc != 0) = true := by simpa using h3
          clear h0 h1 h2
          go_enter Tryd.func36, Tryd.ntmps36
          go_wp2_with fail
          go_ret
          exact ⟨by rw [← HR.out]; rfl, b1⟩
      · have HR := Lib.hid (none_false (p := p) (.inr (.inr (.inl h2))))
        have hx1 : (p.len != 0) = true := by simpa using h2
        clear h0 h1
        go_enter Tryd.func36, Tryd.ntmps36
        go_wp2_with fail
        go_ret
        exact ⟨by rw [← HR.out]; rfl, b1⟩
    · have HR := Lib.hid (none_false (p := p) (.inr (.inl h1)))
      have hx1 : (p.birth != 0) = true := by simpa using h1
      clear h0
      go_enter Tryd.func36, Tryd.ntmps36
      go_wp2_with fail
      go_ret
      exact ⟨by rw [← HR.out]; rfl, b1⟩
  · have HR := Lib.hid (none_false (p := p) (.inl h0))
    have hx1 : (p.place != 0) = true := by simpa using h0
    go_enter Tryd.func36, Tryd.ntmps36
    go_wp2_with fail
    go_ret
    exact ⟨by rw [← HR.out]; rfl, b1⟩
end Go.Proofs.YtcolicmefehcnaaDoor

/- Read: any bytes (at most 400000) are their pointer, or its error; nothing that was there is written. -/
import Derived.Test.YtnoofmdhhlcbkaaPtrReadNums
import Derived.Test.YtnoofmdhhlcbkaaPtrVar
import Derived.Test.YtnoofmdhhlcbkaaPtrRight
import Derived.Test.YtnoofmdhhlcbkaaTake
import Derived.Laws.CopyOwn
import Derived.Laws.ResultCell
namespace Go.Proofs.Ytnoofmdhhlcbkaa
open Go.RowKit

theorem pset0 (p : Pt) (x : Int) : (pcells p).setIfInBounds 0 (.int .i64 x) = pcells ⟨x, p.birth, p.len, p.crc, p.sha⟩ := by simp [pcells]
theorem pset1 (p : Pt) (x : Int) : (pcells p).setIfInBounds 1 (.int .i64 x) = pcells ⟨p.place, x, p.len, p.crc, p.sha⟩ := by simp [pcells]
theorem pset2 (p : Pt) (x : Int) : (pcells p).setIfInBounds 2 (.int .i64 x) = pcells ⟨p.place, p.birth, x, p.crc, p.sha⟩ := by simp [pcells]
theorem pset3 (p : Pt) (x : Int) : (pcells p).setIfInBounds 3 (.int .u32 x) = pcells ⟨p.place, p.birth, p.len, x, p.sha⟩ := by simp [pcells]
/-- The cells as a list. -/
def plist (p : Pt) : List Value := Value.int .i64 p.place :: Value.int .i64 p.birth :: Value.int .i64 p.len :: Value.int .u32 p.crc :: p.sha.map (Value.int .u8)
theorem psetSha (p : Pt) (ys : List Int) (h : ys.length = p.sha.length) : (splice (plist p) 4 (cellsOf .u8 ys)).toArray = pcells ⟨p.place, p.birth, p.len, p.crc, ys⟩ := by
  unfold splice plist pcells
  rw [cellsOf_length]
  have : (List.drop (4 + ys.length) (Value.int .i64 p.place :: Value.int .i64 p.birth :: Value.int .i64 p.len :: Value.int .u32 p.crc :: p.sha.map (Value.int .u8))) = [] := List.drop_eq_nil_of_le (by simp; omega)
  rw [this, List.append_nil]
  rfl
theorem wp_copy_splice {P : Program} {o : Oper} {a : Act} {w : World} {K : Act → World → Prop} {Q : Exit → Act → World → Prop} (hgd : o.guard = none) (d s : Operand) (dT sT : TypeId)
    (ho : o.op = .call { callee := .builtin .copy, args := #[d, s], argTypes := #[dT, sT] }) (elem : TypeId) (hu : P.underlying dT = some (.slice elem)) (hsz : (P.info? elem).map (·.size) = some 1)
    (dp sp : Option Addr) (dLen dCap sLen sCap : Nat) (hd : a.eval d = .slice dp dLen dCap) (hs : a.eval s = .slice sp sLen sCap)
    (g off : Nat) (cur : List Value) (t : TypeId) (hg : w.heap[g]? = some (.cells cur.toArray t (0, 0))) (cs : List Value) (hn : cs.length = Nat.min sLen dLen)
    (hpos : 0 < cs.length → dp = some ⟨g, off, none⟩ ∧ ∃ ad, sp = some ad ∧ ∀ j v, cs[j]? = some v → w.cell? (ad.add j) = some v)
    (hfit : off + cs.length ≤ cur.length) (h1 : ∀ v ∈ cs, v.oneCell' = true) (B : Nat) (w0 : World) (hb : RowKit.Below B w0 w) (hBg : B ≤ g)
    (h : ∀ w', RowKit.Hid (w'.heap[g]? = some (.cells (splice cur off cs).toArray t (0, 0))) → RowKit.Below B w0 w' → K (a.put o.dst (goInt cs.length)) w') :
    Oper.wp P o a w K Q := by
  have := step_copy_splice (ops := #[]) (a := a) (K := K) (Q := Q) (E := True) hgd d s dT sT ho elem hu hsz dp sp dLen dCap sLen sCap hd hs g off cur t hg cs hn hpos hfit h1 B w0 hb hBg h
  rw [if_pos (by simp [Region.wanted, hgd])] at this
  exact this

/-- What is left to read lies in block R's slice, and not in block P. -/
def Rest (w : World) (P R : Nat) (xs : List Int) : Prop :=
  ∃ A n c, Row w R 22 #[.slice A n c] ∧ n = xs.length ∧ n ≤ c ∧ c ≤ 9223372036854775807 ∧
    (0 < xs.length → ∃ b o, A = some ⟨b, o, none⟩ ∧ b < w.heap.size ∧ b ≠ P ∧ b ≠ R ∧ ∀ i, i < xs.length → w.cell? ⟨b, o + i, none⟩ = some (.int .u8 (xs.getD i 0)))
theorem Rest.lt {w : World} {P R : Nat} {xs : List Int} (h : Rest w P R xs) : R < w.heap.size := by
  obtain ⟨A, n, c, hr, _⟩ := h
  exact hr.lt
theorem setCell_size' (w : World) (a : Addr) (v : Value) : (w.setCell a v).heap.size = w.heap.size := by
  have h1 := ((Below.refl 0 w).setCell (p := a) (Nat.zero_le _) v).size
  rcases Nat.lt_or_ge w.heap.size (w.setCell a v).heap.size with h | h
  · exfalso
    have hs : ∃ o, (w.setCell a v).heap[w.heap.size]? = some o := ⟨_, Array.getElem?_eq_getElem h⟩
    obtain ⟨o, ho⟩ := hs
    by_cases hb : w.heap.size = a.block
    · unfold World.setCell at ho h
      simp at h
    · rw [heap_setCell_other w a _ v hb, Array.getElem?_eq_none (Nat.le_refl _)] at ho
      cases ho
  · omega
theorem Rest.set {w : World} {P R : Nat} {xs : List Int} (h : Rest w P R xs) (hPR : P ≠ R) (j : Nat) (v : Value) : Rest (w.setCell ⟨P, j, none⟩ v) P R xs := by
  obtain ⟨A, n, c, hr, hn, hc, hm, hs⟩ := h
  refine ⟨A, n, c, hr.other (fun h => hPR h.symm) j v, hn, hc, hm, fun hp => ?_⟩
  obtain ⟨b, o, hA, hb, h1, h2, hcell⟩ := hs hp
  refine ⟨b, o, hA, by rw [setCell_size']; exact hb, h1, h2, fun i hi => ?_⟩
  exact (World.cell?_setCell_other _ ⟨P, j, none⟩ ⟨b, o + i, none⟩ _ (by intro h; injection h with h; exact h1 h.symm)).trans (hcell i hi)

set_option maxHeartbeats 1000000 in
/-- The closure next takes a number off what is left. -/
theorem next_any (P R k : Nat) (xs : List Int) (w : World) (h : Rest w P R xs) (hPR : P < R) (hx : IsBytes xs) (h1 : 1 ≤ k) (h8 : k ≤ 8) (hk : k ≤ xs.length) (hl : xs.length ≤ 1000) :
    Calls Try.prog 55 #[.int .i64 (k : Int), .pointer (some ⟨R, 0, none⟩)] w fun e w' => e = .returned (.int .u64 (((numOf (xs.take k) : Nat)) : Int)) ∧ Rest w' P R (xs.drop k) ∧ Below R w w' := by
  obtain ⟨A, n, c, hr, hn, hnc, hcm, hs⟩ := h
  have hsrc : Src .u8 w A xs := fun hp => by
    obtain ⟨b, o, hA, hb, _, _, hcell⟩ := hs hp
    exact ⟨b, o, hA, hb, hcell⟩
  have hok : takeOk xs.length (k : Int) = true := by unfold takeOk; simp; omega
  have HC := Lib.hid (take_any A n c xs (k : Int) w hn hsrc hx (by omega) hnc hcm (by omega) (by omega))
  have e1 : takeNum xs (k : Int) = ((numOf (xs.take k) : Nat) : Int) := by unfold takeNum; rw [if_pos hok, Int.toNat_natCast]
  have e2 : takeRest xs (k : Int) = xs.drop k := by unfold takeRest; rw [if_pos hok, Int.toNat_natCast]
  have HE1 := Lib.hid e1
  have HE2 := Lib.hid e2
  have HR := Lib.hid hr
  have c0 : w.cell? ⟨R, 0, none⟩ = some (.slice A n c) := hr.cell (j := 0) rfl
  clear hs hsrc hok e1 e2 hr hn
  go_enter Try.func55, Try.ntmps55
  go_wp2_with fail
  refine HC.out.mono ?_
  rintro e w1 ⟨A1, n1, c1, rfl, hn1, ho1, hb1⟩
  rw [HE1.out]
  rw [HE2.out] at hn1 ho1
  obtain ⟨V, hV⟩ : ∃ V, ((numOf (xs.take k) : Nat) : Int) = V := ⟨_, rfl⟩
  have HV := Lib.hid hV
  rw [hV]
  clear hV
  generalize takeOk xs.length (k : Int) = T at *
  have r1 := HR.out.keep hb1
  have c1' : w1.cell? ⟨R, 0, none⟩ = some (.slice A n c) := r1.cell (j := 0) rfl
  have f1 := r1.free 0
  have hlt := HR.out.lt
  have HN1 := Lib.hid hn1
  clear c0 hn1
  go_wp2_with fail
  go_ret
  refine ⟨by rw [HV.out]; rfl, ⟨A1, n1, c1, r1.set 0 _, HN1.out, ?_, ?_, fun hp => ?_⟩, (hb1.mono (Nat.le_of_lt hlt)).setCell (Nat.le_refl _) _⟩
  · rw [HN1.out]; exact ho1.cap.1
  · have := ho1.cap.2; unfold maxLen at this; exact this
  · obtain ⟨g, cap, hv, hB, hg⟩ := World.ownsRow.form ho1 hp
    have hA : A1 = some ⟨g, 0, none⟩ := by injection hv
    subst hA
    have hgB : w.heap.size ≤ g := ho1.row g rfl
    obtain ⟨b, o, he, hbl, hcell⟩ := ho1.src hp
    injection he with he
    injection he with hb ho _
    subst hb; subst ho
    refine ⟨g, 0, rfl, by rw [setCell_size']; exact hbl, by omega, by omega, fun i hi => ?_⟩
    exact (World.cell?_setCell_other _ ⟨R, 0, none⟩ ⟨g, 0 + i, none⟩ _ (by intro h; injection h with h; omega)).trans (hcell i hi)
end Go.Proofs.Ytnoofmdhhlcbkaa

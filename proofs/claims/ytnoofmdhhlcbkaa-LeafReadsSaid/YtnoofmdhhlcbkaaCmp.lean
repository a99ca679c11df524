/- bytes.Compare: of any two rows of bytes, by the texts' order; nothing is written. No conditions but those that stand in each lemma. | bytes.Equal: of any two rows of bytes; nothing is written. No conditions but those that stand in each lemma. -/
import Derived.Test.YtnoofmdhhlcbkaaLex
import Derived.Lib.Bytealg
import Derived.IntWalk

namespace Go.Proofs.Ytnoofmdhhlcbkaa
open Go.RowKit
namespace Lex

/-- -1, 0 or 1. -/
def cmpI (xs ys : List Int) : Int := if lexB xs ys = true then -1 else if lexB ys xs = true then 1 else 0
theorem cmp_pos {xs ys : List Int} : 0 < cmpI xs ys ↔ lexB ys xs = true := by
  unfold cmpI
  by_cases h : lexB xs ys = true
  · rw [if_pos h, lex_asymm h]; simp
  · rw [if_neg h]
    by_cases k : lexB ys xs = true
    · rw [if_pos k, k]; simp
    · rw [if_neg k]; simp [k]
theorem cmp_neg {xs ys : List Int} : cmpI xs ys < 0 ↔ lexB xs ys = true := by
  unfold cmpI
  by_cases h : lexB xs ys = true
  · rw [if_pos h, h]; simp
  · rw [if_neg h]
    by_cases k : lexB ys xs = true
    · rw [if_pos k]; simp [h]
    · rw [if_neg k]; simp [h]
theorem cmp_range (xs ys : List Int) : -1 ≤ cmpI xs ys ∧ cmpI xs ys ≤ 1 := by
  unfold cmpI
  split
  · omega
  · split <;> omega
theorem cmp_cons (x y : Int) (xs ys : List Int) : cmpI (x :: xs) (y :: ys) = if x < y then -1 else if y < x then 1 else cmpI xs ys := by
  unfold cmpI
  by_cases h1 : x < y
  · rw [if_pos h1, if_pos ((lex_cons x y xs ys).2 (.inl h1))]
  · rw [if_neg h1]
    by_cases h2 : y < x
    · rw [if_pos h2, if_neg (fun h => by have := (lex_cons x y xs ys).1 h; omega), if_pos ((lex_cons y x ys xs).2 (.inl h2))]
    · have e : x = y := by omega
      subst e
      rw [if_neg h2]
      have a : ∀ us vs : List Int, (lexB (x :: us) (x :: vs) = true) = (lexB us vs = true) := fun us vs => by
        rw [eq_iff_iff, lex_cons]
        constructor
        · rintro (h | ⟨_, h⟩)
          · omega
          · exact h
        · exact fun h => .inr ⟨rfl, h⟩
      simp only [a]
theorem compare_map : ∀ xs ys : List Int, IsBytes xs → IsBytes ys → Lib.compareBytes (xs.map fun n => UInt8.ofNat n.toNat) (ys.map fun n => UInt8.ofNat n.toNat) = cmpI xs ys
  | [], [], _, _ => rfl
  | [], _ :: _, _, _ => rfl
  | _ :: _, [], _, _ => rfl
  | x :: xs, y :: ys, hx, hy => by
    have a := hx x (List.mem_cons_self ..)
    have b := hy y (List.mem_cons_self ..)
    have ih := compare_map xs ys (fun z hz => hx z (List.mem_cons_of_mem _ hz)) (fun z hz => hy z (List.mem_cons_of_mem _ hz))
    rw [List.map_cons, List.map_cons, Lib.compareBytes, ih, cmp_cons]
    have e1 : (UInt8.ofNat x.toNat < UInt8.ofNat y.toNat) = (x < y) := by
      rw [eq_iff_iff, UInt8.lt_iff_toNat_lt, UInt8.toNat_ofNat', UInt8.toNat_ofNat']
      omega
    have e2 : (UInt8.ofNat y.toNat < UInt8.ofNat x.toNat) = (y < x) := by
      rw [eq_iff_iff, UInt8.lt_iff_toNat_lt, UInt8.toNat_ofNat', UInt8.toNat_ofNat']
      omega
    simp only [e1, e2]
theorem load_bytes {P : Program} {w : World} : ∀ (n o b : Nat) (l : List Int) (acc : ByteArray), l.length = n → IsBytes l → (∀ i, i < n → w.cell? ⟨b, o + i, none⟩ = some (.int .u8 (l.getD i 0))) →
    ∃ r : ByteArray, (Extern.Bytes.loadBytes ⟨b, o, none⟩ n acc).run P w = .ok r w ∧ r.data.toList = acc.data.toList ++ l.map fun x => UInt8.ofNat x.toNat
  | 0, _, _, l, acc, hl, _, _ => ⟨acc, by simp [Extern.Bytes.loadBytes], by rw [List.length_eq_zero_iff.1 hl]; simp⟩
  | n + 1, o, b, [], _, hl, _, _ => by simp at hl
  | n + 1, o, b, x :: l, acc, hl, hb, hc => by
    have h0 : w.cell? ⟨b, o, none⟩ = some (.int .u8 x) := hc 0 (by omega)
    have hadd : (⟨b, o, none⟩ : Addr).add 1 = ⟨b, o + 1, none⟩ := by unfold Addr.add; split <;> simp_all
    obtain ⟨r, hr, e⟩ := load_bytes n (o + 1) b l (acc.push x.toNat.toUInt8) (by simpa using hl) (fun y hy => hb y (List.mem_cons_of_mem _ hy)) (fun i hi => by
      rw [Nat.add_assoc, Nat.add_comm 1 i]
      exact hc (i + 1) (by omega))
    refine ⟨r, ?_, ?_⟩
    · unfold Extern.Bytes.loadBytes
      rw [Sem.run_bind, run_load, h0]
      simp only [Result.andThen]
      rw [hadd]
      exact hr
    · rw [e]
      simp
theorem bytes_of {P : Program} {w : World} {A : Option Addr} {n c : Nat} {xs : List Int} (hn : n = xs.length) (hs : Src .u8 w A xs) (hx : IsBytes xs) :
    ∃ r : ByteArray, (Extern.Bytes.bytesOf (.slice A n c)).run P w = .ok r w ∧ r.data.toList = xs.map fun x => UInt8.ofNat x.toNat := by
  subst hn
  by_cases h0 : xs = []
  · subst h0
    cases A with
    | none => exact ⟨.empty, by simp [Extern.Bytes.bytesOf], rfl⟩
    | some a => exact ⟨.empty, by simp [Extern.Bytes.bytesOf, Extern.Bytes.loadBytes], rfl⟩
  · obtain ⟨b, o, rfl, _, hc⟩ := hs (List.length_pos_iff.2 h0)
    obtain ⟨r, hr, e⟩ := load_bytes (P := P) (w := w) xs.length o b xs .empty rfl hx hc
    exact ⟨r, by simpa [Extern.Bytes.bytesOf] using hr, by rw [e]; rfl⟩
theorem run_compare {P : Program} {w : World} {A S : Option Addr} {n m c d : Nat} {xs ys : List Int} (hn : n = xs.length) (hs : Src .u8 w A xs) (hx : IsBytes xs) (hm : m = ys.length) (hr : Src .u8 w S ys) (hy : IsBytes ys) :
    (Extern.BytealgCompare.compare #[.slice A n c, .slice S m d]).run P w = .ok (.int .i64 (cmpI xs ys)) w := by
  obtain ⟨r, h1, e1⟩ := bytes_of (P := P) (c := c) hn hs hx
  obtain ⟨s, h2, e2⟩ := bytes_of (P := P) (c := d) hm hr hy
  change Sem.run P (do pure (goInt (Extern.BytealgCompare.cmp (← Extern.Bytes.bytesOf (.slice A n c)) (← Extern.Bytes.bytesOf (.slice S m d))))) w = _
  simp only [Sem.run_bind, h1, h2, Sem.run_pure, Result.andThen]
  rw [Lib.cmp_eq, e1, e2, compare_map xs ys hx hy]
  rfl
theorem compare_any (A S : Option Addr) (n m c d : Nat) (xs ys : List Int) (w : World) (hn : n = xs.length) (hs : Src .u8 w A xs) (hx : IsBytes xs) (hm : m = ys.length) (hr : Src .u8 w S ys) (hy : IsBytes ys) :
    Calls Try.prog 21 #[.slice A n c, .slice S m d] w fun e w' => e = .returned (.int .i64 (cmpI xs ys)) ∧ w = w' := by
  have hrun : ∀ {c d : Nat}, (Extern.BytealgCompare.compare #[.slice A n c, .slice S m d]).run Try.prog w = .ok (.int .i64 (cmpI xs ys)) w := run_compare hn hs hx hm hr hy
  have HR := Lib.hid (fun c d => hrun (c := c) (d := d))
  clear hrun hs hr hx hy hn hm
  go_enter Try.func21, Try.ntmps21
  go_wp2
  rw [run_callFunc_extern Try.func39 (by kernel_rfl) (by kernel_rfl) (by kernel_rfl) (e := Extern.BytealgCompare.compare) (by kernel_rfl), HR.out]
  simp only [Result.andThen]
  rw [Oper.upon_value]
  go_wp2
  go_ret
  exact ⟨rfl, rfl⟩
end Lex
end Go.Proofs.Ytnoofmdhhlcbkaa

namespace Go.Proofs.Ytnoofmdhhlcbkaa
open Go.RowKit
namespace Lex
theorem eq_texts (xs ys : List Int) (hx : IsBytes xs) (hy : IsBytes ys) : ((strOfNums xs).toList == (strOfNums ys).toList) = decide (xs = ys) := by
  rw [Bool.eq_iff_iff, beq_iff_eq, decide_eq_true_eq, Lib.toList_data, Lib.toList_data]
  constructor
  · intro h
    have : numsOf (strOfNums xs) = numsOf (strOfNums ys) := by unfold numsOf; rw [h]
    rwa [numsOf_strOfNums xs hx, numsOf_strOfNums ys hy] at this
  · exact fun h => by rw [h]
theorem equal_any (A S : Option Addr) (n m c d : Nat) (xs ys : List Int) (w : World) (hn : n = xs.length) (hs : Src .u8 w A xs) (hx : IsBytes xs) (hm : m = ys.length) (hr : Src .u8 w S ys) (hy : IsBytes ys) :
    Calls Try.prog 15 #[.slice A n c, .slice S m d] w fun e w' => e = .returned (.bool (decide (xs = ys))) ∧ w = w' := by
  have h1 := run_text w A n c xs hn hs
  have h2 := run_text w S m d ys hm hr
  have HE := Lib.hid (eq_texts xs ys hx hy)
  generalize decide (xs = ys) = r at *
  generalize strOfNums xs = s at *
  generalize strOfNums ys = t at *
  clear hs hr hx hy hn hm
  go_enter Try.func15, Try.ntmps15
  go_wp2
  go_ret
  rw [HE.out]
  exact ⟨rfl, rfl⟩
end Lex
end Go.Proofs.Ytnoofmdhhlcbkaa

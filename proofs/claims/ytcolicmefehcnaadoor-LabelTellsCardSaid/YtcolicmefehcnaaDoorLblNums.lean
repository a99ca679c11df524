/- What Seal lays, what Open reads and Choose tells (plain mathematics). No conditions but those that stand in each lemma. -/
import Derived.Test.YtcolicmefehcnaaDoorLbl
import Derived.Test.YtcolicmefehcnaaDoorPutNums
import Derived.Test.YtcolicmefehcnaaDoorZeros
import Derived.Test.YtcolicmefehcnaaDoorGo
namespace Go.Proofs.YtcolicmefehcnaaDoor
open Go.RowKit

def Lb.right (l : Lb) : Bool := inB 1 1152921504606846976 l.epoch && (inB 1 1152921504606846976 l.next && (l.root.none || (l.root.right && decide (l.root.birth ≤ l.epoch))))
theorem Lb.right_iff {l : Lb} : l.right = true ↔ (1 ≤ l.epoch ∧ l.epoch ≤ 1152921504606846976) ∧ (1 ≤ l.next ∧ l.next ≤ 1152921504606846976) ∧ (l.root.none = true ∨ (l.root.right = true ∧ l.root.birth ≤ l.epoch)) := by
  unfold Lb.right
  simp only [Bool.and_eq_true, Bool.or_eq_true, inB_iff, decide_eq_true_eq]
/-- A number in eight bytes. -/
def e8 (n : Int) : List Int := fixedOf 8 [u64w n]
theorem e8_length (n : Int) : (e8 n).length = 8 := by
  unfold e8
  rw [show (8 : Int) = ((8 : Nat) : Int) from rfl, fixed_digits 8 _ (by omega) (by omega), digitsOf_length]
theorem e8_bytes (n : Int) : IsBytes (e8 n) := fixedOf_bytes _ _
theorem e8_num (n : Int) : ((numOf (e8 n) : Nat) : Int) = u64w n := by
  unfold e8
  rw [show (8 : Int) = ((8 : Nat) : Int) from rfl, fixed_digits 8 _ (by omega) (by omega)]
  exact digits_num 8 _ (u64w_lo _) (by rw [show ((256 ^ 8 : Nat) : Int) = 18446744073709551616 by decide]; exact u64w_hi _)
/-- A sum in four. -/
def e4 (s : Wd) : List Int := fixedOf 4 [uv s]
theorem e4_length (s : Wd) : (e4 s).length = 4 := by
  unfold e4
  rw [show (4 : Int) = ((4 : Nat) : Int) from rfl, fixed_digits 4 _ (by omega) (by omega), digitsOf_length]
theorem e4_bytes (s : Wd) : IsBytes (e4 s) := fixedOf_bytes _ _
theorem e4_num (s : Wd) : ((numOf (e4 s) : Nat) : Int) = uv s := by
  unfold e4
  rw [show (4 : Int) = ((4 : Nat) : Int) from rfl, fixed_digits 4 _ (by omega) (by omega)]
  exact digits_num 4 _ (uv_lo s) (by rw [show ((256 ^ 4 : Nat) : Int) = 4294967296 by decide]; exact uv_hi s)
def lettersB : List Int := [83, 66, 88, 49]
theorem lettersB_bytes : IsBytes lettersB := fun x hx => by
  simp only [lettersB, List.mem_cons, List.not_mem_nil, or_false] at hx
  omega
/-- The first 20 bytes; the first 72; the 500 that are summed; all 512. -/
def firstB (l : Lb) : List Int := (e8 l.epoch ++ lettersB) ++ e8 l.next
def headB (l : Lb) : List Int := firstB l ++ putOf l.root
def bodyB (l : Lb) : List Int := headB l ++ zerosL 428
def sumB (l : Lb) : Wd := goW 0#32 (bodyB l)
def sealB (l : Lb) : List Int := (bodyB l ++ e4 (sumB l)) ++ e8 l.epoch
theorem firstB_length (l : Lb) : (firstB l).length = 20 := by
  unfold firstB
  rw [List.length_append, List.length_append, e8_length, e8_length]
  rfl
theorem headB_length (l : Lb) (h : l.root.sha.length = 32) : (headB l).length = 72 := by
  unfold headB
  rw [List.length_append, firstB_length, putOf_length _ h]
theorem bodyB_length (l : Lb) (h : l.root.sha.length = 32) : (bodyB l).length = 500 := by
  unfold bodyB
  rw [List.length_append, headB_length l h, zerosL_length]
theorem sealB_length (l : Lb) (h : l.root.sha.length = 32) : (sealB l).length = 512 := by
  unfold sealB
  rw [List.length_append, List.length_append, bodyB_length l h, e4_length, e8_length]
theorem headB_bytes (l : Lb) (h : IsBytes l.root.sha) : IsBytes (headB l) := (((e8_bytes _).append lettersB_bytes).append (e8_bytes _)).append (putOf_bytes _ h)
theorem bodyB_bytes (l : Lb) (h : IsBytes l.root.sha) : IsBytes (bodyB l) := (headB_bytes l h).append (zerosL_bytes _)
theorem sealB_bytes (l : Lb) (h : IsBytes l.root.sha) : IsBytes (sealB l) := ((bodyB_bytes l h).append (e4_bytes _)).append (e8_bytes _)

/-- What Open reads. -/
def lbOf (xs : List Int) : Lb := ⟨i64w (numAt xs 0 8), readPt ((xs.drop 20).take 480), i64w (numAt xs 12 8)⟩
theorem lbOf_ok (xs : List Int) (h : IsBytes xs) : (lbOf xs).Ok := ⟨i64w_lo _, i64w_hi _, readPt_ok _ ((h.drop _).take _), i64w_lo _, i64w_hi _⟩
def sumOk (xs : List Int) : Bool := numAt xs 500 4 == uv (goW 0#32 (xs.take 500))
def rootErr (xs : List Int) : Int := readErr ((xs.drop 20).take 480)
def openE (xs : List Int) : Int := if xs.length < 512 then 10 else if sumOk xs = false then 12 else if rootErr xs ≠ 0 then 11 else if (lbOf xs).right = true ∧ sealB (lbOf xs) = xs.take 512 then 0 else 11
def openL (xs : List Int) : Lb := if openE xs = 0 then lbOf xs else Lb.zero
theorem openE_cases (xs : List Int) (h : 512 ≤ xs.length) : openE xs = 0 ∨ openE xs = 11 ∨ openE xs = 12 := by
  unfold openE
  rw [if_neg (by omega)]
  split
  · exact .inr (.inr rfl)
  · split
    · exact .inr (.inl rfl)
    · split
      · exact .inl rfl
      · exact .inr (.inl rfl)
theorem openL_ok (xs : List Int) (h : IsBytes xs) : (openL xs).Ok := by
  unfold openL
  split
  · exact lbOf_ok xs h
  · exact Lb.zero_ok
theorem open_spec {xs : List Int} (h : openE xs = 0) : 512 ≤ xs.length ∧ openL xs = lbOf xs ∧ (lbOf xs).right = true ∧ sealB (lbOf xs) = xs.take 512 := by
  have h2 : openL xs = lbOf xs := by unfold openL; rw [if_pos h]
  unfold openE at h
  split at h
  · exact absurd h (by decide)
  · rename_i h1
    split at h
    · exact absurd h (by decide)
    · split at h
      · exact absurd h (by decide)
      · split at h
        · rename_i h3
          exact ⟨by omega, h2, h3.1, h3.2⟩
        · exact absurd h (by decide)
theorem openL_none {xs : List Int} (h : openE xs ≠ 0) : openL xs = Lb.zero := by unfold openL; rw [if_neg h]
/-- What is read hangs on the first 72 bytes. -/
theorem readPt_first (xs : List Int) (h : 52 ≤ xs.length) : readPt xs = readPt (xs.take 52) ∧ readErr xs = readErr (xs.take 52) := by
  have hr : rawP (xs.take 52) = rawP xs := by
    unfold rawP
    rw [numAt_take _ _ _ _ (by omega), numAt_take _ _ _ _ (by omega), numAt_take _ _ _ _ (by omega), numAt_take _ _ _ _ (by omega), List.drop_take, List.take_take]
    rfl
  have hl : (xs.take 52).length = 52 := by rw [List.length_take]; omega
  have ho : readOk (xs.take 52) = readOk xs := by unfold readOk; rw [hr]
  have n1 : ¬ xs.length < 52 := by omega
  have n2 : ¬ (xs.take 52).length < 52 := by omega
  constructor
  · unfold readPt
    rw [if_neg n1, if_neg n2, ho, hr]
  · unfold readErr
    rw [if_neg n1, if_neg n2, ho]
theorem part_first (xs : List Int) : ((xs.drop 20).take 480).take 52 = ((xs.take 72).drop 20).take 52 := by
  rw [List.take_take, List.drop_take, List.take_take]
  rfl
theorem lbOf_first {xs ys : List Int} (hx : 512 ≤ xs.length) (hy : 512 ≤ ys.length) (h : xs.take 72 = ys.take 72) : lbOf xs = lbOf ys := by
  have n0 : numAt xs 0 8 = numAt ys 0 8 := by rw [← numAt_take xs 0 8 72 (by omega), ← numAt_take ys 0 8 72 (by omega), h]
  have n1 : numAt xs 12 8 = numAt ys 12 8 := by rw [← numAt_take xs 12 8 72 (by omega), ← numAt_take ys 12 8 72 (by omega), h]
  unfold lbOf
  rw [n0, n1, (readPt_first ((xs.drop 20).take 480) (by rw [List.length_take, List.length_drop]; omega)).1, (readPt_first ((ys.drop 20).take 480) (by rw [List.length_take, List.length_drop]; omega)).1, part_first xs, part_first ys, h]
/-- Bytes where no root is read are not those of None. -/
theorem putZero_reads (xs : List Int) (h : 52 ≤ xs.length) (e : xs.take 52 = putOf Pt.zero) : readErr xs = 0 := by
  rw [(readPt_first xs h).2, e]
  have := (read_put (p := Pt.zero) (zs := []) rfl (zero_back []) (.inl (Pt.same_self _))).2
  rwa [List.append_nil] at this

theorem root_back {p : Pt} (hok : p.Ok) (h : p.none = true ∨ p.right = true) (zs : List Int) : rawP (putOf p ++ zs) = p := by
  rcases h with h | h
  · have : p = Pt.zero := (Pt.same_iff _ _).1 h
    rw [this]
    exact zero_back zs
  · unfold Pt.right at h
    have h2 := of_decide_eq_true h
    have h3 := secs_bounds p.len
    have c1 := hok.crc1
    have c2 := hok.crc2
    exact raw_put p zs hok.shaL (by omega) (by omega) (by omega) (by omega) (by omega) (by omega) c1 c2
theorem mid_take (a m r : List Int) (i k : Nat) (ha : a.length = i) (hm : m.length = k) : ((a ++ (m ++ r)).drop i).take k = m := by
  rw [← ha, List.drop_left, ← hm, List.take_left]
theorem seal_parts (l : Lb) (zs : List Int) : sealB l ++ zs = e8 l.epoch ++ (lettersB ++ (e8 l.next ++ (putOf l.root ++ (zerosL 428 ++ (e4 (sumB l) ++ (e8 l.epoch ++ zs)))))) := by
  unfold sealB bodyB headB firstB
  simp only [List.append_assoc]
theorem seal_root (l : Lb) (h : l.root.sha.length = 32) (zs : List Int) : ((sealB l ++ zs).drop 20).take 480 = putOf l.root ++ zerosL 428 := by
  have e : sealB l ++ zs = firstB l ++ ((putOf l.root ++ zerosL 428) ++ (e4 (sumB l) ++ (e8 l.epoch ++ zs))) := by
    unfold sealB bodyB headB
    simp only [List.append_assoc]
  rw [e]
  exact mid_take _ _ _ 20 480 (firstB_length l) (by rw [List.length_append, putOf_length _ h, zerosL_length])
theorem seal_epoch (l : Lb) (zs : List Int) : numAt (sealB l ++ zs) 0 8 = u64w l.epoch := by
  have := numAt_mid [] (e8 l.epoch) (lettersB ++ (e8 l.next ++ (putOf l.root ++ (zerosL 428 ++ (e4 (sumB l) ++ (e8 l.epoch ++ zs)))))) 8 (e8_length _)
  rw [List.nil_append] at this
  rw [seal_parts, ← e8_num]
  exact this
theorem seal_next (l : Lb) (zs : List Int) : numAt (sealB l ++ zs) 12 8 = u64w l.next := by
  have := numAt_mid (e8 l.epoch ++ lettersB) (e8 l.next) (putOf l.root ++ (zerosL 428 ++ (e4 (sumB l) ++ (e8 l.epoch ++ zs)))) 8 (e8_length _)
  rw [show (e8 l.epoch ++ lettersB).length = 12 by rw [List.length_append, e8_length]; rfl, List.append_assoc] at this
  rw [seal_parts, ← e8_num]
  exact this
theorem seal_body (l : Lb) (h : l.root.sha.length = 32) (zs : List Int) : (sealB l ++ zs).take 500 = bodyB l := by
  unfold sealB
  rw [List.append_assoc, List.append_assoc, ← bodyB_length l h, List.take_left]
theorem seal_sum (l : Lb) (h : l.root.sha.length = 32) (zs : List Int) : numAt (sealB l ++ zs) 500 4 = uv (sumB l) := by
  have := numAt_mid (bodyB l) (e4 (sumB l)) (e8 l.epoch ++ zs) 4 (e4_length _)
  rw [bodyB_length l h] at this
  unfold sealB
  rw [List.append_assoc, List.append_assoc, this, e4_num]
theorem i64w_u64w {n : Int} (h1 : 1 ≤ n) (h2 : n ≤ 1152921504606846976) : i64w (u64w n) = n := by
  rw [u64w_id (by omega) (by omega)]
  unfold i64w
  omega
/-- What is sealed is read as it was. -/
theorem lbOf_seal {l : Lb} (hok : l.Ok) (h : l.right = true) (zs : List Int) : lbOf (sealB l ++ zs) = l ∧ rootErr (sealB l ++ zs) = 0 := by
  obtain ⟨h1, h2, h3⟩ := Lb.right_iff.1 h
  have hp : l.root.none = true ∨ l.root.right = true := h3.imp id (fun h => h.1)
  have hr := read_put (p := l.root) (zs := zerosL 428) hok.root.shaL (root_back hok.root hp _) hp
  unfold lbOf rootErr
  rw [seal_root l hok.root.shaL, seal_epoch, seal_next, i64w_u64w h1.1 h1.2, i64w_u64w h2.1 h2.2, hr.1]
  exact ⟨rfl, hr.2⟩
theorem seal_take {l : Lb} (h : l.root.sha.length = 32) (zs : List Int) : (sealB l ++ zs).take 512 = sealB l := by
  rw [← sealB_length l h, List.take_left]
theorem open_seal {l : Lb} (hok : l.Ok) (h : l.right = true) (zs : List Int) : openE (sealB l ++ zs) = 0 ∧ openL (sealB l ++ zs) = l := by
  have hs := hok.root.shaL
  have he : openE (sealB l ++ zs) = 0 := by
    obtain ⟨e1, e2⟩ := lbOf_seal hok h zs
    unfold openE
    rw [if_neg (by rw [List.length_append, sealB_length l hs]; omega), if_neg (by unfold sumOk; rw [seal_body l hs, seal_sum l hs]; unfold sumB; simp), if_neg (by rw [e2]; simp), if_pos (by rw [e1, seal_take hs]; exact ⟨h, rfl⟩)]
  exact ⟨he, by rw [(open_spec he).2.1, (lbOf_seal hok h zs).1]⟩
theorem open_seal' {l : Lb} (hok : l.Ok) (h : l.right = true) : openE (sealB l) = 0 ∧ openL (sealB l) = l := by
  have := open_seal hok h []
  rwa [List.append_nil] at this
/-- Bytes that begin as what is sealed, and are not it, are no label. -/
theorem open_other {l : Lb} (hok : l.Ok) (h : l.right = true) {ys : List Int} (hl : ys.length = 512) (h72 : ys.take 72 = (sealB l).take 72) (hne : ys ≠ sealB l) : openE ys = 11 ∨ openE ys = 12 := by
  rcases openE_cases ys (by omega) with h0 | h1 | h2
  · exfalso
    obtain ⟨_, _, _, e⟩ := open_spec h0
    have hs := sealB_length l hok.root.shaL
    rw [lbOf_first (by omega) (by omega) h72, List.take_of_length_le (by omega)] at e
    have := (lbOf_seal hok h []).1
    rw [List.append_nil] at this
    rw [this] at e
    exact hne e.symm
  · exact .inl h1
  · exact .inr h2
/-- Bytes whose sum is another are none. -/
theorem open_sum {l : Lb} (hok : l.Ok) {ys : List Int} (hl : ys.length = 512) (hd : ys.drop 500 = (sealB l).drop 500) (hs : (uv (goW 0#32 (ys.take 500)) == uv (sumB l)) = false) : openE ys = 12 := by
  unfold openE
  rw [if_neg (by omega), if_pos]
  unfold sumOk
  have h1 := seal_sum l hok.root.shaL []
  rw [List.append_nil] at h1
  unfold numAt at h1 ⊢
  rw [hd, h1]
  rw [beq_eq_false_iff_ne] at hs ⊢
  exact fun e => hs e.symm

/-- Which of two labels counts so far. -/
def stepC (k : Int) (best x : Lb) : Lb := if x.epoch.tmod 2 = k ∧ best.epoch < x.epoch then x else best
def chooseL (xs ys : List Int) : Lb := stepC 1 (stepC 0 Lb.zero (openL xs)) (openL ys)
theorem stepC_ok {k : Int} {best x : Lb} (hb : best.Ok) (hx : x.Ok) : (stepC k best x).Ok := by
  unfold stepC
  split
  · exact hx
  · exact hb
theorem open_pos {xs : List Int} (h : openE xs = 0) : 1 ≤ (openL xs).epoch := by
  obtain ⟨_, e, hr, _⟩ := open_spec h
  rw [e]
  exact (Lb.right_iff.1 hr).1.1
theorem zero_epoch : Lb.zero.epoch = 0 := rfl
theorem ne_zero {l : Lb} (h : 0 < l.epoch) : Lb.same l Lb.zero = false := Lb.same_not fun e => by rw [e, zero_epoch] at h; omega
/-- The document's words: each is a label of its sector, or not. -/
def isOne (xs : List Int) (k : Int) : Bool := openE xs == 0 && (openL xs).epoch.tmod 2 == k
theorem isOne_pos {xs : List Int} {k : Int} (h : isOne xs k = true) : 0 < (openL xs).epoch ∧ (openL xs).epoch.tmod 2 = k := by
  unfold isOne at h
  rw [Bool.and_eq_true, beq_iff_eq, beq_iff_eq] at h
  have := open_pos h.1
  exact ⟨by omega, h.2⟩
theorem isOne_no {xs : List Int} {k : Int} (h : isOne xs k = false) : (openL xs).epoch = 0 ∨ (openL xs).epoch.tmod 2 ≠ k := by
  by_cases h0 : openE xs = 0
  · refine .inr fun e => ?_
    unfold isOne at h
    rw [h0, e] at h
    simp at h
  · rw [openL_none h0]
    exact .inl rfl
theorem step_one {xs : List Int} {k : Int} {best : Lb} (h : isOne xs k = true) (hb : best.epoch < (openL xs).epoch) : stepC k best (openL xs) = openL xs := by
  unfold stepC
  rw [if_pos ⟨(isOne_pos h).2, hb⟩]
theorem step_not {xs : List Int} {k : Int} {best : Lb} (h : isOne xs k = false) (hb : 0 ≤ best.epoch) : stepC k best (openL xs) = best := by
  unfold stepC
  rw [if_neg]
  rintro ⟨h1, h2⟩
  rcases isOne_no h with h3 | h3
  · omega
  · exact h3 h1
theorem choose_first {xs ys : List Int} (h1 : isOne xs 0 = true) (h2 : isOne ys 1 = false ∨ (openL ys).epoch < (openL xs).epoch) : chooseL xs ys = openL xs ∧ Lb.same (chooseL xs ys) Lb.zero = false := by
  have p1 := isOne_pos h1
  have e1 : stepC 0 Lb.zero (openL xs) = openL xs := step_one h1 (by rw [zero_epoch]; exact p1.1)
  have e : chooseL xs ys = openL xs := by
    unfold chooseL
    rw [e1]
    rcases h2 with h2 | h2
    · exact step_not h2 (by omega)
    · unfold stepC
      rw [if_neg (by omega)]
  rw [e]
  exact ⟨rfl, ne_zero p1.1⟩
theorem choose_second {xs ys : List Int} (h2 : isOne ys 1 = true) (h1 : isOne xs 0 = false ∨ ¬ (openL ys).epoch < (openL xs).epoch) : chooseL xs ys = openL ys ∧ Lb.same (chooseL xs ys) Lb.zero = false := by
  have p2 := isOne_pos h2
  have e : chooseL xs ys = openL ys := by
    unfold chooseL
    refine step_one h2 ?_
    cases h : isOne xs 0 with
    | false => rw [step_not h (by rw [zero_epoch]; omega), zero_epoch]; exact p2.1
    | true =>
      have p1 := isOne_pos h
      have h3 := h1.resolve_left (by rw [h]; decide)
      rw [step_one h (by rw [zero_epoch]; exact p1.1)]
      rcases Int.lt_trichotomy (openL xs).epoch (openL ys).epoch with h4 | h4 | h4
      · exact h4
      · have a := p1.2
        have b := p2.2
        rw [h4, b] at a
        exact absurd a (by decide)
      · exact absurd h4 h3
  rw [e]
  exact ⟨rfl, ne_zero p2.1⟩
theorem choose_none {xs ys : List Int} (h1 : isOne xs 0 = false) (h2 : isOne ys 1 = false) : chooseL xs ys = Lb.zero ∧ Lb.same (chooseL xs ys) Lb.zero = true := by
  have e : chooseL xs ys = Lb.zero := by
    unfold chooseL
    rw [step_not h1 (by rw [zero_epoch]; omega), step_not h2 (by rw [zero_epoch]; omega)]
  rw [e]
  exact ⟨rfl, Lb.same_self _⟩
end Go.Proofs.YtcolicmefehcnaaDoor

/- Times as texts, plain: digits of a fixed number, the three forms, what is read off each; later times have later texts. No conditions but those that stand in each lemma. -/
import Derived.Test.YtfbgcjpakahocaaDoorClkNums
import Derived.Test.YtfbgcjpakahocaaDoorDecNums
namespace Go.Proofs.YtfbgcjpakahocaaDoor
open Go.RowKit
namespace Clk

/-- The last k digits of a number. -/
def digK : Nat → Int → List Int
  | 0, _ => []
  | k + 1, n => digK k (n / 10) ++ [48 + n % 10]
theorem digK_length : ∀ (k : Nat) (n : Int), (digK k n).length = k
  | 0, _ => rfl
  | k + 1, n => by rw [digK, List.length_append, digK_length k]; rfl
theorem digK_bytes : ∀ (k : Nat) (n : Int), IsBytes (digK k n)
  | 0, _ => IsBytes.nil
  | k + 1, n => (digK_bytes k _).append (IsBytes.cons (by omega) IsBytes.nil)
theorem digK_ten : ∀ (k : Nat) (n : Int), AllTen (digK k n)
  | 0, _ => fun _ h => by cases h
  | k + 1, n => (digK_ten k _).snoc ((kindI_one _).2 (by omega))
theorem digK_zero : ∀ k : Nat, digK k 0 = List.replicate k 48
  | 0 => rfl
  | k + 1 => by
    rw [digK, show (0 : Int) / 10 = 0 from rfl, digK_zero k, List.replicate_succ']
    rfl
theorem digI_ten (u : Nat) (h : u < 10) : digI (u : Int) = 48 + (u : Int) := by unfold digI; rw [if_pos (by omega)]
/-- A number's digits behind as many zeros as lack. -/
theorem digK_pad : ∀ (k u : Nat), u < 10 ^ (k + 1) → List.replicate (k + 1 - (decN u).length) 48 ++ decN u = digK (k + 1) u
  | k, u, h => by
    by_cases hu : u < 10
    · rw [decN_small hu, digI_ten u hu, digK, show ((u : Int) / 10) = 0 by omega, digK_zero, show (u : Int) % 10 = u by omega]
      rfl
    · rw [decN_big hu, digK]
      cases k with
      | zero => omega
      | succ k =>
        have ih := digK_pad k (u / 10) (by rw [Nat.pow_succ] at h; omega)
        rw [show ((u : Int) / 10) = ((u / 10 : Nat) : Int) by omega, ← ih, digI_ten (u % 10) (by omega), show ((u % 10 : Nat) : Int) = (u : Int) % 10 by omega, List.append_assoc, List.length_append]
        have : (decN (u / 10)).length ≤ k + 1 := (decN_len k (by rw [Nat.pow_succ] at h; omega)).2
        simp only [List.length_cons, List.length_nil, Nat.zero_add]
        rw [show k + 1 + 1 - ((decN (u / 10)).length + 1) = k + 1 - (decN (u / 10)).length by omega]
theorem numW_digK : ∀ (k : Nat) (n : Int), 0 ≤ n → n < 10 ^ k → numW (digK k n) = n
  | 0, n, h0, h => by
    rw [Int.pow_zero] at h
    have : n = 0 := by omega
    subst this
    rfl
  | k + 1, n, h0, h => by
    rw [Int.pow_succ] at h
    rw [digK, numW_snoc, numW_digK k (n / 10) (by omega) (by omega)]
    omega

/-- The texts' order: of the first bytes that differ. -/
def lexB : List Int → List Int → Bool
  | _, [] => false
  | [], _ :: _ => true
  | x :: xs, y :: ys => decide (x < y) || (decide (x = y) && lexB xs ys)
theorem lex_cons (x y : Int) (xs ys : List Int) : lexB (x :: xs) (y :: ys) = true ↔ x < y ∨ (x = y ∧ lexB xs ys = true) := by simp [lexB]
theorem lex_irrefl : ∀ xs : List Int, lexB xs xs = false
  | [] => rfl
  | x :: xs => by simp [lexB, lex_irrefl xs]
theorem lex_digK : ∀ (k : Nat) (a b : Int) (xs ys : List Int), 0 ≤ a → a < 10 ^ k → 0 ≤ b → b < 10 ^ k → (lexB (digK k a ++ xs) (digK k b ++ ys) = true ↔ a < b ∨ (a = b ∧ lexB xs ys = true))
  | 0, a, b, xs, ys, h0, h1, h2, h3 => by
    rw [Int.pow_zero] at h1 h3
    have e : a = b := by omega
    subst e
    show lexB xs ys = true ↔ _
    simp
  | k + 1, a, b, xs, ys, h0, h1, h2, h3 => by
    rw [Int.pow_succ] at h1 h3
    rw [digK, digK, List.append_assoc, List.append_assoc, lex_digK k (a / 10) (b / 10) _ _ (by omega) (by omega) (by omega) (by omega), List.singleton_append, List.singleton_append, lex_cons]
    constructor
    · rintro (h | ⟨h, h' | ⟨h', hl⟩⟩)
      · exact .inl (by omega)
      · exact .inl (by omega)
      · exact .inr ⟨by omega, hl⟩
    · rintro (h | ⟨rfl, hl⟩)
      · by_cases e : a / 10 = b / 10
        · exact .inr ⟨e, .inl (by omega)⟩
        · exact .inl (by omega)
      · exact .inr ⟨rfl, .inr ⟨rfl, hl⟩⟩

/-- The names of days and months. -/
def wdN : Nat → List Int
  | 0 => [83, 117, 110]
  | 1 => [77, 111, 110]
  | 2 => [84, 117, 101]
  | 3 => [87, 101, 100]
  | 4 => [84, 104, 117]
  | 5 => [70, 114, 105]
  | _ => [83, 97, 116]
def moN : Nat → List Int
  | 0 => [74, 97, 110]
  | 1 => [70, 101, 98]
  | 2 => [77, 97, 114]
  | 3 => [65, 112, 114]
  | 4 => [77, 97, 121]
  | 5 => [74, 117, 110]
  | 6 => [74, 117, 108]
  | 7 => [65, 117, 103]
  | 8 => [83, 101, 112]
  | 9 => [79, 99, 116]
  | 10 => [78, 111, 118]
  | _ => [68, 101, 99]
theorem wdN_length (k : Nat) : (wdN k).length = 3 := by unfold wdN; split <;> rfl
theorem moN_length (k : Nat) : (moN k).length = 3 := by unfold moN; split <;> rfl
theorem wdN_bytes (k : Nat) : IsBytes (wdN k) := by
  unfold wdN
  split <;> exact fun x hx => by simp at hx; omega
theorem moN_bytes (k : Nat) : IsBytes (moN k) := by
  unfold moN
  split <;> exact fun x hx => by simp at hx; omega
theorem moN_inj : ∀ a b : Fin 12, moN a.val = moN b.val → a = b := by decide
theorem moN_inj' {a b : Nat} (ha : a < 12) (hb : b < 12) (h : moN a = moN b) : a = b := congrArg Fin.val (moN_inj ⟨a, ha⟩ ⟨b, hb⟩ h)

/-- hh:mm:ss and yyyy-mm-dd, with any text between. -/
def dayW (b : List Int) (t : Tm) : List Int := digK 2 t.h ++ (b ++ (digK 2 t.i ++ (b ++ digK 2 t.s)))
def yearW (b : List Int) (t : Tm) : List Int := digK 4 t.y ++ (b ++ (digK 2 t.m ++ (b ++ digK 2 t.d)))
def isoW (t : Tm) : List Int := yearW [45] t ++ (84 :: (dayW [58] t ++ [46, 48, 48, 48, 90]))
def shortW (t : Tm) : List Int := yearW [] t ++ (84 :: (dayW [] t ++ [90]))
def webW (t : Tm) : List Int := wdN t.wd.toNat ++ (44 :: 32 :: (digK 2 t.d ++ (32 :: (moN (t.m - 1).toNat ++ (32 :: (digK 4 t.y ++ (32 :: (dayW [58] t ++ [32, 71, 77, 84]))))))))
theorem isoW_length (t : Tm) : (isoW t).length = 24 := by simp [isoW, yearW, dayW, digK_length]
theorem shortW_length (t : Tm) : (shortW t).length = 16 := by simp [shortW, yearW, dayW, digK_length]
theorem webW_length (t : Tm) : (webW t).length = 29 := by simp [webW, dayW, digK_length, wdN_length, moN_length]
/-- What is told of any time: nothing, if it is not right. -/
def tellW (W : Tm → List Int) (t : Tm) : List Int := if t.Right then W t else []

/-- A part of a text. -/
def partW (xs : List Int) (a b : Nat) : List Int := (xs.take b).drop a
def isoT (f : List Int → Int) (xs : List Int) : Tm := ⟨f (partW xs 0 4), f (partW xs 5 7), f (partW xs 8 10), f (partW xs 11 13), f (partW xs 14 16), f (partW xs 17 19)⟩
def shortT (f : List Int → Int) (xs : List Int) : Tm := ⟨f (partW xs 0 4), f (partW xs 4 6), f (partW xs 6 8), f (partW xs 9 11), f (partW xs 11 13), f (partW xs 13 15)⟩
def webT (f : List Int → Int) (m : Int) (xs : List Int) : Tm := ⟨f (partW xs 12 16), m, f (partW xs 5 7), f (partW xs 17 19), f (partW xs 20 22), f (partW xs 23 25)⟩
/-- A reckoning that knows two digits and four. -/
def Knows (f : List Int → Int) : Prop := (∀ n : Int, 0 ≤ n → n < 100 → f (digK 2 n) = n) ∧ ∀ n : Int, 0 ≤ n → n < 10000 → f (digK 4 n) = n
theorem knows_numW : Knows numW := ⟨fun n h0 h => numW_digK 2 n h0 h, fun n h0 h => numW_digK 4 n h0 h⟩
theorem right_range {t : Tm} (h : t.Right) : (0 ≤ t.y ∧ t.y < 10000) ∧ (0 ≤ t.m ∧ t.m < 100) ∧ (0 ≤ t.d ∧ t.d < 100) ∧ (0 ≤ t.h ∧ t.h < 100) ∧ (0 ≤ t.i ∧ t.i < 100) ∧ (0 ≤ t.s ∧ t.s < 100) := by
  obtain ⟨a, b, c, d, e, f⟩ := h
  have := (md_range t.y t.m b).2
  omega
theorem digK2 (n : Int) : digK 2 n = [48 + n / 10 % 10, 48 + n % 10] := rfl
theorem digK4 (n : Int) : digK 4 n = [48 + n / 10 / 10 / 10 % 10, 48 + n / 10 / 10 % 10, 48 + n / 10 % 10, 48 + n % 10] := rfl
theorem three_of {xs : List Int} (h : xs.length = 3) : ∃ a b c, xs = [a, b, c] := by
  match xs, h with
  | [a, b, c], _ => exact ⟨a, b, c, rfl⟩
theorem iso_parts (t : Tm) : partW (isoW t) 0 4 = digK 4 t.y ∧ partW (isoW t) 5 7 = digK 2 t.m ∧ partW (isoW t) 8 10 = digK 2 t.d ∧ partW (isoW t) 11 13 = digK 2 t.h ∧ partW (isoW t) 14 16 = digK 2 t.i ∧ partW (isoW t) 17 19 = digK 2 t.s :=
  ⟨rfl, rfl, rfl, rfl, rfl, rfl⟩
theorem short_parts (t : Tm) : partW (shortW t) 0 4 = digK 4 t.y ∧ partW (shortW t) 4 6 = digK 2 t.m ∧ partW (shortW t) 6 8 = digK 2 t.d ∧ partW (shortW t) 9 11 = digK 2 t.h ∧ partW (shortW t) 11 13 = digK 2 t.i ∧ partW (shortW t) 13 15 = digK 2 t.s :=
  ⟨rfl, rfl, rfl, rfl, rfl, rfl⟩
theorem web_parts (t : Tm) : partW (webW t) 12 16 = digK 4 t.y ∧ partW (webW t) 8 11 = moN (t.m - 1).toNat ∧ partW (webW t) 5 7 = digK 2 t.d ∧ partW (webW t) 17 19 = digK 2 t.h ∧ partW (webW t) 20 22 = digK 2 t.i ∧ partW (webW t) 23 25 = digK 2 t.s := by
  obtain ⟨a, b, c, e⟩ := three_of (wdN_length t.wd.toNat)
  obtain ⟨p, q, r, f⟩ := three_of (moN_length (t.m - 1).toNat)
  unfold webW
  rw [e, f]
  exact ⟨rfl, rfl, rfl, rfl, rfl, rfl⟩
theorem iso_back {f : List Int → Int} (hf : Knows f) {t : Tm} (h : t.Right) : isoT f (isoW t) = t := by
  obtain ⟨a, b, c, d, e, g⟩ := right_range h
  obtain ⟨p1, p2, p3, p4, p5, p6⟩ := iso_parts t
  unfold isoT
  rw [p1, p2, p3, p4, p5, p6, hf.2 _ a.1 a.2, hf.1 _ b.1 b.2, hf.1 _ c.1 c.2, hf.1 _ d.1 d.2, hf.1 _ e.1 e.2, hf.1 _ g.1 g.2]
theorem short_back {f : List Int → Int} (hf : Knows f) {t : Tm} (h : t.Right) : shortT f (shortW t) = t := by
  obtain ⟨a, b, c, d, e, g⟩ := right_range h
  obtain ⟨p1, p2, p3, p4, p5, p6⟩ := short_parts t
  unfold shortT
  rw [p1, p2, p3, p4, p5, p6, hf.2 _ a.1 a.2, hf.1 _ b.1 b.2, hf.1 _ c.1 c.2, hf.1 _ d.1 d.2, hf.1 _ e.1 e.2, hf.1 _ g.1 g.2]
theorem web_back {f : List Int → Int} (hf : Knows f) {t : Tm} (h : t.Right) : webT f t.m (webW t) = t := by
  obtain ⟨a, b, c, d, e, g⟩ := right_range h
  obtain ⟨p1, _, p3, p4, p5, p6⟩ := web_parts t
  unfold webT
  rw [p1, p3, p4, p5, p6, hf.2 _ a.1 a.2, hf.1 _ c.1 c.2, hf.1 _ d.1 d.2, hf.1 _ e.1 e.2, hf.1 _ g.1 g.2]
theorem iso_inj {a b : Tm} (ha : a.Right) (hb : b.Right) (h : isoW a = isoW b) : a = b := by rw [← iso_back knows_numW ha, h, iso_back knows_numW hb]
theorem short_inj {a b : Tm} (ha : a.Right) (hb : b.Right) (h : shortW a = shortW b) : a = b := by rw [← short_back knows_numW ha, h, short_back knows_numW hb]
theorem web_month {a b : Tm} (ha : a.Right) (hb : b.Right) (h : webW a = webW b) : a.m = b.m := by
  have e := (web_parts a).2.1
  rw [h, (web_parts b).2.1] at e
  have h1 := ha.2.1
  have h2 := hb.2.1
  have := moN_inj' (a := (b.m - 1).toNat) (b := (a.m - 1).toNat) (by omega) (by omega) e
  omega
theorem web_inj {a b : Tm} (ha : a.Right) (hb : b.Right) (h : webW a = webW b) : a = b := by
  rw [← web_back knows_numW ha, ← web_back knows_numW hb, h, web_month ha hb h]
/-- Later times have later texts. -/
theorem iso_lex {a b : Tm} (ha : a.Right) (hb : b.Right) : lexB (isoW a) (isoW b) = true ↔ a.lt b := by
  obtain ⟨a1, a2, a3, a4, a5, a6⟩ := right_range ha
  obtain ⟨b1, b2, b3, b4, b5, b6⟩ := right_range hb
  have key : ∀ t : Tm, isoW t = digK 4 t.y ++ (45 :: (digK 2 t.m ++ (45 :: (digK 2 t.d ++ (84 :: (digK 2 t.h ++ (58 :: (digK 2 t.i ++ (58 :: (digK 2 t.s ++ [46, 48, 48, 48, 90])))))))))) := fun t => by
    simp [isoW, yearW, dayW]
  rw [key a, key b, lex_digK 4 _ _ _ _ a1.1 a1.2 b1.1 b1.2, lex_cons, lex_digK 2 _ _ _ _ a2.1 a2.2 b2.1 b2.2, lex_cons, lex_digK 2 _ _ _ _ a3.1 a3.2 b3.1 b3.2, lex_cons, lex_digK 2 _ _ _ _ a4.1 a4.2 b4.1 b4.2, lex_cons, lex_digK 2 _ _ _ _ a5.1 a5.2 b5.1 b5.2, lex_cons, lex_digK 2 _ _ _ _ a6.1 a6.2 b6.1 b6.2, lex_irrefl]
  simp only [Bool.false_eq_true, and_false, or_false, Int.lt_irrefl, false_or, true_and]
  unfold Tm.lt Tm.ltD
  omega
end Clk
end Go.Proofs.YtfbgcjpakahocaaDoor

/- Bytes as cells: rows of bytes, and their equality. No conditions but those that stand in each lemma. -/
import Derived.Test.YtnoofmdhhlcbkaaMem
import Derived.Test.YtnoofmdhhlcbkaaBase
namespace Go.Proofs.Ytnoofmdhhlcbkaa
open Go.RowKit

/-- Bytes as cells. -/
def bcells (xs : List Int) : Array Value := (xs.map (Value.int .u8)).toArray
theorem bcells_size (xs : List Int) : (bcells xs).size = xs.length := by simp [bcells]
theorem bcells_at (xs : List Int) (j : Nat) (h : j < xs.length) : (bcells xs)[j]? = some (.int .u8 (xs.getD j 0)) := by
  simp [bcells, List.getD_eq_getElem?_getD, List.getElem?_eq_getElem h]
theorem bcells_set (xs : List Int) (j : Nat) (x : Int) : (bcells xs).setIfInBounds j (.int .u8 x) = bcells (xs.set j x) := by
  simp [bcells, List.map_set]
theorem bcells_one (xs : List Int) : (bcells xs).all (·.oneCell') = true := by
  simp [bcells, List.all_map, Value.oneCell']
theorem bcells_inj {xs ys : List Int} (h : bcells xs = bcells ys) : xs = ys := by
  have h1 : xs.map (Value.int .u8) = ys.map (Value.int .u8) := by simpa [bcells] using h
  have h2 := congrArg (List.map fun v => match v with | .int _ x => x | _ => (0 : Int)) h1
  simpa [List.map_map, Function.comp_def] using h2

section
variable {w : World} {g : Nat} {t : TypeId}
theorem row_bytes {l : List Int} (h : Row w g t (bcells l)) : Src .u8 w (some ⟨g, 0, none⟩) l := fun _ =>
  ⟨g, 0, rfl, h.lt, fun i hi => by rw [Nat.zero_add]; exact h.cell (bcells_at l i hi)⟩
end

section
variable {P : Program}
theorem all_same : ∀ (xs ys : List Int), xs.length = ys.length → ((List.range xs.length).all fun i => xs.getD i 0 == ys.getD i 0) = decide (xs = ys)
  | [], [], _ => by simp
  | x :: xs, y :: ys, h => by
    have ih := all_same xs ys (by simpa using h)
    rw [List.length_cons, List.range_succ_eq_map, List.all_cons, List.all_map]
    simp only [List.getD_cons_zero, Function.comp_def, List.getD_cons_succ, ih]
    rw [Bool.eq_iff_iff]
    simp
  | [], _ :: _, h => by simp at h
  | _ :: _, [], h => by simp at h
/-- Rows of bytes are equal, or not. -/
theorem run_equal_bytes (w : World) (d : Nat) (t e : TypeId) (n : Nat) (ht : P.underlying t = some (.array n e)) (he : P.underlying e = some (.int .u8)) (hsz : ∀ w, (sizeOf e).run P w = .ok 1 w) (xs ys : List Int) (hx : xs.length = n) (hy : ys.length = n) :
    (Op.equalIn (d + 2) t (.agg (bcells xs)) (.agg (bcells ys))).run P w = .ok (decide (xs = ys)) w := by
  rw [← all_same xs ys (hx.trans hy.symm), hx, List.range_eq_range', Op.equalIn]
  simp only [Sem.run_bind, run_underlying ht, Result.andThen_ok, hsz, Std.Legacy.Range.forIn_eq_forIn_range', Std.Legacy.Range.size, Nat.sub_zero, Nat.add_sub_cancel, Nat.div_one]
  have hl : ∀ i ∈ List.range' 0 n 1, i < n := fun i hi => by simpa using (List.mem_range'_1.1 hi).2
  generalize List.range' 0 n 1 = l at hl ⊢
  induction l with
  | nil => simp
  | cons i l ih =>
    have hi : i < n := hl i (by simp)
    have px : (part e (bcells xs) (i * 1)).run P w = .ok (.int .u8 (xs.getD i 0)) w := by
      rw [Nat.mul_one]
      simp [part, isAgg, run_underlying he, bcells_at xs i (by omega)]
    have py : (part e (bcells ys) (i * 1)).run P w = .ok (.int .u8 (ys.getD i 0)) w := by
      rw [Nat.mul_one]
      simp [part, isAgg, run_underlying he, bcells_at ys i (by omega)]
    have pe : (Op.equalIn (d + 1) e (.int .u8 (xs.getD i 0)) (.int .u8 (ys.getD i 0))).run P w = .ok (xs.getD i 0 == ys.getD i 0) w := run_equalIn_int w d e .u8 .u8 _ _ he
    simp only [List.forIn_cons, Sem.run_bind, px, py, pe, Result.andThen_ok, List.all_cons]
    cases hb : (xs.getD i 0 == ys.getD i 0)
    · simp
    · simp only [Bool.not_true, Bool.false_eq_true, if_false, Sem.run_pure, Result.andThen_ok, Bool.true_and]
      exact ih fun j hj => hl j (by simp [hj])
end
end Go.Proofs.Ytnoofmdhhlcbkaa

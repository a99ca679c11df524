/- make([]byte, L): a row of zeros of the call's own; append as an operation of a region that draws its order. No conditions but those that stand in each lemma. -/
import Derived.Test.YtnoofmdhhlcbkaaCells
import Derived.Test.YtnoofmdhhlcbkaaZeros
import Derived.Laws.MakeOwn
namespace Go.Proofs.Ytnoofmdhhlcbkaa
open Go.RowKit

theorem made_bytes (L : Nat) : madeCells (Value.int .u8 0).cells (L * 1) = bcells (zerosL L) := by
  have h := zero_cells_u8 L
  apply Array.ext'
  unfold bcells zerosL
  show _ = (List.replicate L (0 : Int)).map (Value.int .u8)
  unfold cellsOf at h
  rw [← h]
  simp [madeCells, Builtin.zeroCells, Value.cells, Nat.mod_one]
theorem wpList_makeZ {ops : Array Oper} {rest : List Oper} {o : Oper} {a : Act} {w : World} {Q : Exit → Act → World → Prop} (hg : o.guard = none) (x y : Operand) (ho : o.op = .makeSlice 22 x y) (L : Nat) (hL : L ≤ 1000000) (hx : a.eval x = .int .i64 (L : Int)) (hy : a.eval y = .int .i64 (L : Int))
    (h : ∀ w', Row w' w.heap.size 5 (bcells (zerosL L)) → Below w.heap.size w w' → wpList Try.prog ops Q rest (a.put o.dst (.slice (some ⟨w.heap.size, 0, none⟩) L L)) w') : wpList Try.prog ops Q (o :: rest) a w := by
  obtain ⟨i, hi, hz, hz1, hz2⟩ := info_parts Try.info5
  have hr := run_make (P := Try.prog) w 22 5 i _ Try.underlying22 hi hz .i64 .i64 (L : Int) (L : Int) (by omega) (by omega) (by rw [hz2]; omega) (by omega)
  rw [hz1, Int.toNat_natCast, made_bytes] at hr
  refine wpList_plain hg fun K hK => ?_
  unfold Oper.wp execOp
  simp only [ho, hx, hy, Sem.run_bind, hr, Result.andThen_ok, Sem.run_pure]
  exact hK _ _ (h _ (Row.new _ _ _) ((Below.refl _ _).alloc (Nat.le_refl _) _))
theorem wp_append_src {w : World} {o : Oper} {a : Act} {K : Act → World → Prop} {Q : Exit → Act → World → Prop} (s x : Operand)
    (ho : o.op = .call { callee := .builtin .append, args := #[s, x], argTypes := #[22, 22] })
    (B : Nat) (A : Option Addr) (n c : Nat) (xs : List Int) (ea : a.eval s = .slice A n c) (hn : n = xs.length) (hown : Own w B A c xs)
    (S : Option Addr) (m d : Nat) (ys : List Int) (ex : a.eval x = .slice S m d) (hm : m = ys.length) (hs : Src .u8 w S ys) (hlen : n + m ≤ 1000000) (hB : B ≤ w.heap.size)
    (h : ∀ v' w', Grew w B (xs ++ ys) v' w' → K (a.put o.dst v') w') : Oper.wp Try.prog o a w K Q := by
  subst hn; subst hm
  obtain ⟨v', w', hr, hg⟩ := run_append_src w o.type B A c xs hown S d ys hs hlen hB
  unfold Oper.wp execOp
  simp only [ho, resolve, invoke, builtin, Sem.run_bind, Sem.run_pure, Result.andThen_ok, List.map_toArray, List.map_cons, List.map_nil, ea, ex, hr]
  exact h v' w' hg
end Go.Proofs.Ytnoofmdhhlcbkaa

/- Read of a block that fits, on any disk: its bytes, if they are the pointer's; nothing that was there is written. No conditions but those that stand in each lemma. -/
import Derived.Test.YtnllladoipcfkaaDoorBlkWords
import Derived.Test.YtnllladoipcfkaaDoorPtrCheck
namespace Go.Proofs.YtnllladoipcfkaaDoor
open Go.RowKit Go.Maps

/-- The first bytes of L, as f tells them, up to the j-th piece; zeros behind. -/
def partS (f : Nat → Int) (L j : Nat) : List Int := (List.range L).map fun t => if t < j * 512 then f t else 0
theorem partS_length (f : Nat → Int) (L j : Nat) : (partS f L j).length = L := by unfold partS; rw [List.length_map, List.length_range]
theorem partS_at (f : Nat → Int) (L j t : Nat) : (partS f L j)[t]? = if t < L then some (if t < j * 512 then f t else 0) else none := by
  unfold partS
  rw [List.getElem?_map]
  split
  · rename_i h; rw [List.getElem?_range h]; rfl
  · rename_i h; rw [List.getElem?_eq_none (by rw [List.length_range]; omega)]; rfl
theorem partS_zero (f : Nat → Int) (L : Nat) : partS f L 0 = List.replicate L 0 := by
  apply List.ext_getElem?
  intro t
  rw [partS_at, List.getElem?_replicate]
  simp
theorem partS_all (f : Nat → Int) (L j : Nat) (h : L ≤ j * 512) : partS f L j = (List.range L).map f := by
  unfold partS
  exact List.map_congr_left fun t ht => by rw [List.mem_range] at ht; rw [if_pos (by omega)]
theorem part_next (f : Nat → Int) (L j : Nat) (s : List Int) (hs : s.length = 512) (hf : ∀ t, t < 512 → f (j * 512 + t) = s.getD t 0) (hj : j * 512 < L) :
    splice (partS f L j) (j * 512) (s.take (pieceN L j)) = partS f L (j + 1) := by
  have hp := pieceN_le L j
  have hp2 : pieceN L j = min (j * 512 + 512) L - j * 512 := rfl
  obtain ⟨P, hP⟩ : ∃ P, pieceN L j = P := ⟨_, rfl⟩
  rw [hP] at hp hp2 ⊢
  have hl : (s.take P).length = P := by rw [List.length_take, hs]; omega
  obtain ⟨F, hF⟩ : ∃ F, j * 512 = F := ⟨_, rfl⟩
  have hF2 : (j + 1) * 512 = F + 512 := by rw [Nat.add_mul, hF]
  apply List.ext_getElem?
  intro t
  unfold splice
  rw [hl, partS_at, hF2]
  rw [hF] at hf hj hp2 ⊢
  have hA : ((partS f L j).take F).length = F := by rw [List.length_take, partS_length]; omega
  by_cases h1 : t < F
  · rw [List.getElem?_append_left (by omega), List.getElem?_take, if_pos h1, partS_at, hF, if_pos (by omega), if_pos h1, if_pos (by omega), if_pos (by omega)]
  · rw [List.getElem?_append_right (by omega), hA]
    by_cases h2 : t < F + P
    · rw [List.getElem?_append_left (by omega), List.getElem?_take, if_pos (by omega), if_pos (by omega), if_pos (by omega)]
      have := hf (t - F) (by omega)
      rw [show F + (t - F) = t by omega] at this
      rw [this, List.getD_eq_getElem?_getD, List.getElem?_eq_getElem (by omega)]
      rfl
    · rw [List.getElem?_append_right (by omega), hl, List.getElem?_drop, partS_at, hF, show F + P + (t - F - P) = t by omega]
      by_cases h3 : t < L
      · rw [if_pos h3, if_pos h3, if_neg (by omega), if_neg (by omega)]
      · rw [if_neg h3, if_neg h3]
theorem splice_cells (k : IntKind) (l c : List Int) (o : Nat) : splice (cellsOf k l) o (cellsOf k c) = cellsOf k (splice l o c) := by
  unfold splice cellsOf
  rw [List.length_map, List.map_append, List.map_append, List.map_take, List.map_drop]
/-- Byte t of the block at a, behind all that waits. -/
def blkI (D : DataW Unit) (ls : List (List Int)) (a t : Nat) : Int := (flushI D ls (a + t / 512)).getD (t % 512) 0
/-- The bytes of the block at a. -/
def blkS (D : DataW Unit) (ls : List (List Int)) (a L : Nat) : List Int := (List.range L).map (blkI D ls a)
theorem blkS_length (D : DataW Unit) (ls : List (List Int)) (a L : Nat) : (blkS D ls a L).length = L := by unfold blkS; rw [List.length_map, List.length_range]
theorem wpList_makeB {ops : Array Oper} {rest : List Oper} {o : Oper} {a : Act} {w : World} {Q : Exit → Act → World → Prop} (hg : o.guard = none) (x y : Operand) (ho : o.op = .makeSlice 23 x y) (L : Nat) (hL : L ≤ 1000000) (hx : a.eval x = .int .i64 (L : Int)) (hy : a.eval y = .int .i64 (L : Int))
    (h : ∀ w', Row w' w.heap.size 5 (bcells (List.replicate L 0)) → Below w.heap.size w w' → wpList Tryd.prog ops Q rest (a.put o.dst (.slice (some ⟨w.heap.size, 0, none⟩) L L)) w') : wpList Tryd.prog ops Q (o :: rest) a w := by
  obtain ⟨i, hi, hz, hz1, hz2⟩ := info_parts Tryd.info5
  have hr := run_make (P := Tryd.prog) w 23 5 i _ Tryd.underlying23 hi hz .i64 .i64 (L : Int) (L : Int) (by omega) (by omega) (by rw [hz2]; omega) (by omega)
  have hc : madeCells (Value.int .u8 0).cells (L * 1) = bcells (List.replicate L 0) := by
    rw [Nat.mul_one, show (Value.int .u8 0).cells = bcells (List.replicate 1 0) from rfl, made_zero 1 L (by decide)]
    simp [bcells]
  rw [hz1, Int.toNat_natCast, hc] at hr
  refine wpList_plain hg fun K hK => ?_
  unfold Oper.wp execOp
  simp only [ho, hx, hy, Sem.run_bind, hr, Result.andThen_ok, Sem.run_pure]
  exact hK _ _ (h _ (Row.new _ _ _) ((Below.refl _ _).alloc (Nat.le_refl _) _))
theorem checkP_right {p : Pt} {xs : List Int} (h : p.right = true) : checkP p xs = 0 ∨ checkP p xs = 12 := by
  unfold checkP
  rw [if_pos h]
  split
  · exact .inl rfl
  · exact .inr rfl

/-- At a round's head: j pieces are copied. -/
def BRAt (w0 : World) (p : Pt) (D : DataW Unit) (ls : List (List Int)) (a L m g : Nat) (iv : Value) (wr : World) : Prop :=
  ∃ j : Nat, j ≤ m ∧ iv = .int .i64 j ∧ Row wr w0.heap.size 31 (pcells p) ∧ Row wr g 5 (bcells (partS (blkI D ls a) L j)) ∧ Below w0.heap.size w0 wr
set_option maxRecDepth 100000 in
set_option maxHeartbeats 2000000 in
theorem bread_any {w : World} {base q B M N C k : Nat} {ls : List (List Int)} {D : DataW Unit} {f : Bool} {l : Int} (h : Disk w base q B M N C k ls D f l) (p : Pt) (hp : p.Ok) (ht : Tabs w) (a L : Nat) (ha : p.place = (a : Int)) (hL : p.len = (L : Int)) (hf : fitsI p N = 0) (hx : IsBytes (blkS D ls a L)) :
    Calls Tryd.prog 11 #[.pointer (some ⟨q, 0, none⟩), .agg (pcells p)] w fun e w' => Below w.heap.size w w' ∧
      ((checkP p (blkS D ls a L) = 0 ∧ ∃ g, w.heap.size ≤ g ∧ e = .returned (.tuple #[.slice (some ⟨g, 0, none⟩) L L, .int .i64 0]) ∧ Src .u8 w' (some ⟨g, 0, none⟩) (blkS D ls a L)) ∨
       (checkP p (blkS D ls a L) = 12 ∧ e = .returned (.tuple #[.slice none 0 0, .int .i64 12]))) := by
  obtain ⟨hr, hfit⟩ := fits_right hf
  obtain ⟨n1, n2⟩ := right_len hr
  obtain ⟨m, hm, _⟩ := secs_nat L
  have L1 : 1 ≤ L := by rw [hL] at n1; omega
  have L2 : L ≤ 65536 := by rw [hL] at n2; omega
  have hm2 := secs_of hm L1 L2
  have haN : a + m ≤ N := by rw [ha, hL, hm] at hfit; omega
  have haM : a + m ≤ 8192 := by have := (right_place hr).2; rw [ha, hL, hm] at this; omega
  have r1 := Row.new w 31 (pcells p)
  have b1 : Below w.heap.size w (w.alloc (.cells (pcells p) 31)) := (Below.refl _ _).alloc (Nat.le_refl _) _
  have HS := Lib.hid hp.shaL
  have HF : Hid (Calls Tryd.prog 17 #[.pointer (some ⟨q, 0, none⟩), .agg (pcells p)] (w.alloc (.cells (pcells p) 31)) fun e w'' => e = .returned (.int .i64 0) ∧ Below (w.alloc (.cells (pcells p) 31)).heap.size (w.alloc (.cells (pcells p) 31)) w'') :=
    Lib.hid (by have := fits_any (h.keep b1) p hp; rw [hf] at this; exact this)
  have HSec : Hid (∀ w', Calls Tryd.prog 18 #[.agg (pcells p)] w' fun e w'' => e = .returned (.int .i64 m) ∧ Below w'.heap.size w' w'') :=
    Lib.hid (fun w' => by have := sectors_any p w'; rw [hL, hm] at this; exact this)
  have HPC : Hid (∀ g j w', j < m → Calls Tryd.prog 20 #[.slice (some ⟨g, 0, none⟩) L L, .int .i64 (j : Nat)] w' fun e w'' => e = .returned (.slice (some ⟨g, 0 + j * 512, none⟩) (pieceN L j) (pieceN L j)) ∧ w'' = w') :=
    Lib.hid (fun g j w' hj => piece_any g 0 L L j w' (by omega) (by omega) (Nat.le_refl _) (by omega))
  have HRd : Hid (∀ j w', Below w.heap.size w w' → j < m → Calls Tryd.prog 13 #[.pointer (some ⟨q, 0, none⟩), .int .i64 ((a : Int) + (j : Int))] w' fun e w'' => ∃ g, e = .returned (.tuple #[.slice (some ⟨g, 0, none⟩) 512 512, .int .i64 0]) ∧ w'.heap.size ≤ g ∧ Below w'.heap.size w' w'' ∧ Row w'' g 62 (bcells (flushI D ls (a + j))) ∧ (flushI D ls (a + j)).length = 512) :=
    Lib.hid (fun j w' hb hj => by rw [show (a : Int) + (j : Int) = ((a + j : Nat) : Int) by omega]; exact sread_any (h.keep hb) (a + j) (by omega))
  have HCk : Hid (∀ g w', Below w.heap.size w w' → Src .u8 w' (some ⟨g, 0, none⟩) (blkS D ls a L) → Calls Tryd.prog 24 #[.agg (pcells p), .slice (some ⟨g, 0, none⟩) L L] w' fun e w'' => e = .returned (.int .i64 (checkP p (blkS D ls a L))) ∧ Below w'.heap.size w' w'') :=
    Lib.hid (fun g w' hb hs => check_any p (some ⟨g, 0, none⟩) L L (blkS D ls a L) w' hp (ht.keep hb) (by rw [blkS_length]) hs hx (by omega) (Nat.le_refl _) (by omega))
  have HR := Lib.hid (checkP_right (xs := blkS D ls a L) hr)
  have c2 : (w.alloc (.cells (pcells p) 31)).cell? ⟨w.heap.size, 2, none⟩ = some (.int .i64 (L : Int)) := by rw [← hL]; exact row_len r1
  have HPl := Lib.hid ha
  have HN : Hid (∀ j, j < m → j * 512 < L) := Lib.hid (fun j hj => by omega)
  have HM : Hid (L ≤ m * 512) := Lib.hid (by omega)
  have HLen := Lib.hid hL
  clear hr hfit n1 n2 hm hm2 hp ht ha hL hf hx h haN c2
  obtain ⟨R, hR⟩ : ∃ R, checkP p (blkS D ls a L) = R := ⟨_, rfl⟩
  rw [hR] at HR HCk ⊢
  clear hR
  go_enter Tryd.func11, Tryd.ntmps11
  go_wp2_with (refine wpList_loadP (.tmp 3) rfl rfl w.heap.size rfl p HS.out r1 ?_)
  refine HF.out.mono ?_
  rintro e w4 ⟨rfl, hb4⟩
  have r4 := r1.keep hb4
  have b4 := b1.trans (hb4.mono b1.size)
  have c2 := row_len r4
  rw [HLen.out] at c2
  clear r1 b1 hb4 HF
  go_wp2_with (first
    | (refine wpList_makeB rfl (.tmp 19) (.tmp 19) rfl L (by omega) rfl rfl ?_; intro w5 q5 hb5; have r5 := r4.keep hb5; have b5 := b4.trans (hb5.mono b4.size); have lt5 := r4.lt; clear r4 b4 hb5 c2)
    | (refine wpList_loadP (.tmp 3) rfl rfl w.heap.size rfl p HS.out r5 ?_))
  refine (HSec.out _).mono ?_
  rintro e w6 ⟨rfl, hb6⟩
  have r6 := r5.keep hb6
  have q6 := q5.keep hb6
  have b6 := b5.trans (hb6.mono b5.size)
  clear r5 q5 b5 hb6 HSec
  go_wp2_with fail
  have start : BRAt w p D ls a L m w4.heap.size (.int .i64 0) w6 :=
    ⟨0, Nat.zero_le _, rfl, r6, by rw [partS_zero]; exact q6, b6⟩
  clear r6 q6 b6
  generalize w4.heap.size = G at *
  go_loopw [23] (fun iv wr => BRAt w p D ls a L m G iv wr) (fun iv _ => m - (intOf iv).toNat)
  case atStart => exact start
  case round =>
    clear start
    obtain ⟨j, hj, rfl, r7, q7, b7⟩ := hrel
    by_cases hlt : j < m
    · have gm : (j : Int) < m := by omega
      have g1 : IntKind.i64.wrap ((a : Int) + (j : Int)) = (a : Int) + (j : Int) := IntWalk.i64_in _ (by omega)
      have c0 := row_place r7
      rw [HPl.out] at c0
      go_wp2_with fail
      refine (HRd.out j _ b7 hlt).mono ?_
      rintro e w8 ⟨gs, rfl, hgs, hb8, hrow, hl⟩
      have r8 := r7.keep hb8
      have q8 := q7.keep hb8
      have b8 := b7.trans (hb8.mono b7.size)
      have ltG := q7.lt
      have Hl := Lib.hid hl
      have Hrow := Lib.hid hrow
      clear r7 q7 b7 hb8 g1 c0 hl hrow
      go_wp2_with fail
      refine (HPC.out G j _ hlt).mono ?_
      rintro e w9 ⟨rfl, rfl⟩
      have hcs : ((flushI D ls (a + j)).take (pieceN L j)).length = pieceN L j := by rw [List.length_take, Hl.out]; have := pieceN_le L j; omega
      have Hcs := Lib.hid hcs
      have Hpn := Lib.hid (pieceN_le L j)
      have Hnx := Lib.hid (part_next (blkI D ls a) L j (flushI D ls (a + j)) Hl.out (fun t h => by unfold blkI; rw [show a + (j * 512 + t) / 512 = a + j by omega, show (j * 512 + t) % 512 = t by omega]) (HN.out j hlt))
      have Hfit : Hid (j * 512 + (pieceN L j) ≤ L) := Lib.hid (by have := HN.out j hlt; unfold pieceN; omega)
      clear hcs
      go_wp2_with (refine wpList_copy_splice rfl (.tmp 40) (.tmp 41) 23 23 rfl 5 Tryd.underlying23 Tryd.size5 _ _ (pieceN L j) (pieceN L j) 512 512 rfl rfl G (j * 512) (cellsOf .u8 (partS (blkI D ls a) L j)) 5 q8 (cellsOf .u8 ((flushI D ls (a + j)).take (pieceN L j))) (by rw [cellsOf_length, Hcs.out]; exact (Nat.min_eq_right Hpn.out).symm) (fun hp => ⟨rfl, src_copy ((row_bytes Hrow.out).take (pieceN L j)) hp⟩) (by rw [cellsOf_length, cellsOf_length, Hcs.out, partS_length]; exact Hfit.out) (cellsOf_one _ _) G _ (Below.refl _ _) (Nat.le_refl _) ?_; intro w10 hg10 hb10; rw [splice_cells, Hnx.out] at hg10; have q10 : Hid (Row w10 G 5 (bcells (partS (blkI D ls a) L (j + 1)))) := hg10; clear hg10)
      have r10 := r8.keepB hb10 lt5
      have b10 := b8.trans (hb10.mono (Nat.le_of_lt lt5))
      have s1 : (j : Int) + 1 ≤ m := by omega
      clear r8 q8 b8 hb10
      go_wp2_with fail
      go_roundw
      case rel => exact ⟨j + 1, by omega, by go_num, r10, q10.out, b10⟩
      case measure => simp [intOf]; omega
    · obtain rfl : j = m := by omega
      have HSrc : Hid (Src .u8 wr (some ⟨G, 0, none⟩) (blkS D ls a L)) := Lib.hid (by rw [partS_all _ _ _ HM.out] at q7; exact row_bytes q7)
      clear HRd HPC
      go_wp2_with (refine wpList_loadP (.tmp 3) rfl rfl w.heap.size rfl p HS.out r7 ?_)
      refine (HCk.out G _ b7 HSrc.out).mono ?_
      rintro e w8 ⟨rfl, hb8⟩
      have b8 := b7.trans (hb8.mono b7.size)
      have HSrc8 := Lib.hid (HSrc.out.keep hb8)
      clear r7 q7 b7 hb8 HSrc HCk
      rcases HR.out with rfl | rfl
      · go_wp2_with fail
        go_ret2
        exact ⟨b8, G, Nat.le_of_lt lt5, rfl, HSrc8.out⟩
      · go_wp2_with fail
        go_ret2
        exact ⟨b8, rfl⟩
end Go.Proofs.YtnllladoipcfkaaDoor

/- Write of a block that fits, on a disk whose power does not end: its pieces wait in its sectors; its pointer is told. No conditions but those that stand in each lemma. -/
import Derived.Test.YtnllladoipcfkaaDoorBlkWords
namespace Go.Proofs.YtnllladoipcfkaaDoor
open Go.RowKit Go.Maps

/-- At a round's head: j pieces wait. -/
def BWAt (w0 : World) (base q B M N C k m : Nat) (ls : List (List Int)) (D : DataW Unit) (l : Int) (at_ : Int) (b o : Nat) (xs : List Int) (g : Nat) (iv : Value) (wr : World) : Prop :=
  ∃ j : Nat, j ≤ m ∧ iv = .int .i64 j ∧ Row wr g 31 (pcells Pt.zero) ∧ Disk wr base q B M N C (k + j) ls (putsD D at_ xs j) false l ∧ Src .u8 wr (some ⟨b, o, none⟩) xs ∧ Below base w0 wr ∧ Oth q B M w0 wr
set_option maxRecDepth 100000 in
set_option maxHeartbeats 2000000 in
theorem bwrite_done {w : World} {base q B M N C k : Nat} {ls : List (List Int)} {D : DataW Unit} {l : Int} (h : Disk w base q B M N C k ls D false l) (h0 : 0 ≤ l) (h1 : l ≤ 1000) (hk : k ≤ 800) (hlow : Low base) (ht : Tabs w)
    (at_ birth : Int) (b o n c m : Nat) (xs : List Int) (hn : n = xs.length) (hs : Src .u8 w (some ⟨b, o, none⟩) xs) (hx : IsBytes xs) (hnc : n ≤ c) (hc : c ≤ 9223372036854775807) (hA : b ≠ q ∧ b ≠ B ∧ b ≠ M)
    (hp : (placeP at_ birth n).Ok) (hf : fitsI (placeP at_ birth n) N = 0) (hm : secsOf n = (m : Int)) :
    Calls Tryd.prog 7 #[.pointer (some ⟨q, 0, none⟩), .int .i64 at_, .int .i64 birth, .slice (some ⟨b, o, none⟩) n c] w fun e w' => e = .returned (.tuple #[.agg (pcells (ofP at_ birth xs)), .int .i64 0]) ∧
      Below base w w' ∧ Oth q B M w w' ∧ Disk w' base q B M N C (k + m) ls (putsD D at_ xs m) false l := by
  obtain ⟨hr, hfit⟩ := fits_right hf
  obtain ⟨n1, n2⟩ := right_len hr
  have n1' : 1 ≤ n := by have : (1 : Int) ≤ (n : Int) := n1; omega
  have n2' : n ≤ 65536 := by have : (n : Int) ≤ 65536 := n2; omega
  have hm2 := secs_of hm n1' n2'
  have m128 : m ≤ 128 := by omega
  obtain ⟨p1, p2⟩ := right_place hr
  have p1' : 2 ≤ at_ := p1
  have p2' : at_ + (m : Int) ≤ 8192 := by rw [← hm]; exact p2
  have p3' : at_ + (m : Int) ≤ N := by rw [← hm]; exact hfit
  have HB := Lib.hid (built_place at_ birth n)
  have HS := Lib.hid (placeP_sha at_ birth n)
  have hbase : base ≤ w.heap.size := Nat.le_of_lt (Nat.lt_of_le_of_lt h.basep h.obj.lt)
  have HFit : Hid (∀ w', Below w.heap.size w w' → Calls Tryd.prog 17 #[.pointer (some ⟨q, 0, none⟩), .agg (pcells (placeP at_ birth n))] w' fun e w'' => e = .returned (.int .i64 0) ∧ Below w'.heap.size w' w'') :=
    Lib.hid (fun w' hb => by have := fits_any (h.keep hb) (placeP at_ birth n) hp; rw [hf] at this; exact this)
  have HSec : Hid (∀ w', Calls Tryd.prog 18 #[.agg (pcells (placeP at_ birth n))] w' fun e w'' => e = .returned (.int .i64 m) ∧ Below w'.heap.size w' w'') :=
    Lib.hid (fun w' => by have := sectors_any (placeP at_ birth n) w'; rw [show secsOf (placeP at_ birth n).len = (m : Int) from hm] at this; exact this)
  have HOf := Lib.hid (fun w' (hb : Below base w w') (hs' : Src .u8 w' (some ⟨b, o, none⟩) xs) => of_any at_ birth (some ⟨b, o, none⟩) n c xs w' (ht.keepB hlow hb) hn hs' hx (by omega) hnc hc)
  have HSO := Lib.hid (shaS_length xs)
  have HPC : Hid (∀ j w', j < m → Calls Tryd.prog 20 #[.slice (some ⟨b, o, none⟩) n c, .int .i64 (j : Nat)] w' fun e w'' => e = .returned (.slice (some ⟨b, o + j * 512, none⟩) (pieceN n j) (pieceN n j)) ∧ w'' = w') :=
    Lib.hid (fun j w' hj => piece_any b o n c j w' (by omega) (by omega) hnc hc)
  have HLen : Hid (∀ j, pieceN n j = (chunk xs j).length) := Lib.hid (fun j => by rw [chunk_length, hn])
  have HD := Lib.hid h
  have HS0 := Lib.hid hs
  have HA := Lib.hid hA
  clear hr hfit n1 n2 hm2 p1 p2 h hs hA hf hm hp ht hx hn hnc hc hlow n1'
  obtain ⟨P, hP⟩ : ∃ P, placeP at_ birth n = P := ⟨_, rfl⟩
  rw [hP] at HB HS HFit HSec
  clear hP
  obtain ⟨Z, hZ⟩ : ∃ Z, ofP at_ birth xs = Z := ⟨_, rfl⟩
  have HZ1 : Hid (Z.sha.length = 32) := Lib.hid (by rw [← hZ]; exact HSO.out)
  rw [hZ] at HOf ⊢
  clear hZ HSO
  go_enter Tryd.func7, Tryd.ntmps7
  go_wp2_with (first
    | (refine wpList_allocP 8 rfl rfl rfl ?_; intro w1 r1 hb1 hz1)
    | (refine wpList_build_eq rfl 31 #[(0, .tmp 14), (1, .tmp 15), (2, .tmp 17)] rfl [(0, .int .i64 at_), (1, .int .i64 birth), (2, .int .i64 (n : Int))] (by simp; exact ⟨rfl, rfl, rfl⟩) (pcells P) HB.out ?_)
    | (refine wpList_allocP 10 rfl rfl rfl ?_; intro w2 r2 hb2 hz2; have r1' := r1.keep hb2; have b2 := hb1.trans (hb2.mono hb1.size); have lt1 := r1.lt; clear r1 hb1 hz1 hb2 hz2)
    | (refine wpList_storeP rfl (.tmp 10) (.tmp 18) rfl w1.heap.size rfl P rfl HS.out Pt.zero rfl r2 ?_; intro w3 r3 o3; have r1'' := o3.row r1' (by omega); have b3 := b2.trans (o3.below.mono (Nat.le_of_lt lt1)); clear r1' r2 b2 o3)
    | (refine wpList_loadP (.tmp 10) rfl rfl w1.heap.size rfl P HS.out r3 ?_))
  refine (HFit.out _ b3).mono ?_
  rintro e w4 ⟨rfl, hb4⟩
  have r4 := r1''.keep hb4
  have q4 := r3.keep hb4
  have b4 := b3.trans (hb4.mono b3.size)
  clear r1'' r3 b3 hb4 HFit
  go_wp2_with (refine wpList_loadP (.tmp 10) rfl rfl w1.heap.size rfl P HS.out q4 ?_)
  refine (HSec.out _).mono ?_
  rintro e w5 ⟨rfl, hb5⟩
  have r5 := r4.keep hb5
  have b5 := b4.trans (hb5.mono b4.size)
  clear r4 q4 b4 hb5 HSec HB HS
  go_wp2_with fail
  have start : BWAt w base q B M N C k m ls D l at_ b o xs w.heap.size (.int .i64 0) w5 :=
    ⟨0, Nat.zero_le _, rfl, r5, HD.out.keep b5, HS0.out.keep b5, b5.mono hbase, .below b5⟩
  clear r5 b5
  go_loopw [28] (fun iv wr => BWAt w base q B M N C k m ls D l at_ b o xs w.heap.size iv wr) (fun iv _ => m - (intOf iv).toNat)
  case atStart => exact start
  case round =>
    clear start
    obtain ⟨j, hj, rfl, rz, hd, hsw, hb, hoth⟩ := hrel
    have e1 := HD.out.obj.lt
    have e2 := HD.out.secs.lt
    have e3 := HD.out.waits.lt
    by_cases hlt : j < m
    · have gm : (j : Int) < m := by omega
      have g1 : IntKind.i64.wrap (at_ + (j : Int)) = at_ + (j : Int) := IntWalk.i64_in _ (by omega)
      go_wp2_with fail
      refine (HPC.out j _ hlt).mono ?_
      rintro e w6 ⟨rfl, rfl⟩
      go_wp2_with fail
      refine (write_done hd h0 h1 (at_ + j) (by omega) (some ⟨b, o + j * 512, none⟩) (pieceN n j) (pieceN n j) (chunk xs j) (HLen.out j) (chunk_src hsw j) (chunk_le xs j) rfl (by omega)).mono ?_
      rintro e w7 ⟨rfl, hb7, ho7, hd7⟩
      have hd8 : Disk w7 base q B M N C (k + (j + 1)) ls (putsD D at_ xs (j + 1)) false l := hd7
      have hs8 := ho7.src hsw (by intro a e; injection e with e; subst e; exact HA.out)
      have rz8 := ho7.row rz (by omega) (by omega) (by omega)
      have hb8 := hb.trans hb7
      have ho8 := hoth.trans ho7
      clear hd7 hb7 ho7 hd hsw hb hoth rz g1
      have s1 : (j : Int) + 1 ≤ m := by omega
      go_wp2_with fail
      go_roundw
      case rel => exact ⟨j + 1, by omega, by go_num, rz8, hd8, hs8, hb8, ho8⟩
      case measure => simp [intOf]; omega
    · obtain rfl : j = m := by omega
      go_wp2_with fail
      refine (HOf.out _ hb hsw).mono ?_
      rintro e w6 ⟨rfl, hb6⟩
      have rz6 := rz.keep hb6
      have hd6 := hd.keep hb6
      have hb6' := hb.trans (hb6.mono (Nat.le_of_lt (Nat.lt_of_le_of_lt hd.basep hd.obj.lt)))
      have ho6 := hoth.trans (.below hb6)
      clear rz hd hb hb6 hoth hsw
      go_wp2_with (refine wpList_storeP rfl (.tmp 8) (.tmp 47) rfl w.heap.size rfl Z rfl HZ1.out Pt.zero rfl rz6 ?_; intro w7 r7 o7; have hd7 := hd6.grown o7.grown (by omega) (by omega) (by omega); have hb7 := hb6'.trans (o7.below.mono hbase); have ho7 := ho6.only o7 (Nat.le_refl _); clear rz6 hd6 hb6' ho6 o7)
      refine bodyPost_ret (v := .tuple #[.agg (pcells Z), .int .i64 0]) ?_ rfl ?_
      · exact results_cell_tmp_row Tryd.resultsBWrite _ _ w.heap.size 31 (pcells Z) (0, 0) _ rfl r7 Tryd.underlying31 rfl (pt_size HZ1.out)
      · exact ⟨rfl, hb7, ho7, hd7⟩
end Go.Proofs.YtnllladoipcfkaaDoor

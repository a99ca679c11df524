/- Md5Blocks' walk: any state, any block and any rest: the program's answers are the document's. -/
import Derived.Test.YtfjkejdnbegomaaDoorMd5RefState
namespace Go.Proofs.YtfjkejdnbegomaaDoor.Md5
open Go.RowKit

set_option maxRecDepth 100000 in
set_option maxHeartbeats 4000000 in
theorem blocks_small (h0 ks hs : List Wd) (q : Qd) (bs : List Int) (A : Option Addr) (n c : Nat) (xs : List Int) (w : World) (hst : SinesTell ks) (hbg : BeginTells h0) (h08 : h0.length = 4) (ht : Tab w h0 ks) (hks : ks.length = 64) (hh : hs.length = 4) (hb64 : bs.length = 64) (hbb : IsBytes bs)
    (hs0 : Src .u8 w A xs) (hx : IsBytes xs) (hn : n = xs.length) (hlen : n ≤ 100) (hnc : n ≤ c) (hc : c ≤ 9223372036854775807) :
    Calls Tryd.prog 4 #[.agg (scells hs (uq q)), .agg (bcells bs), .slice A n c] w fun e w' => e = .returned (.bool true) ∧ Below w.heap.size w w' := by
  have Hst := Lib.hid hst
  have Hbg := Lib.hid hbg
  have H08 := Lib.hid h08
  have Ht := Lib.hid ht
  have Hks := Lib.hid hks
  have Hh := Lib.hid hh
  have Hb64 := Lib.hid hb64
  have Hbb := Lib.hid hbb
  have Hs := Lib.hid hs0
  have Hx := Lib.hid hx
  have Hn := Lib.hid hn
  have Hm : Hid (n ≤ c) := Lib.hid (by omega)
  have Hc := Lib.hid hc
  obtain ⟨r1, r2, hb⟩ := rows2 w (scells hs (uq q)) (bcells bs) 31 32
  have hd : decide ((100 : Int) < (n : Int)) = false := by simp; omega
  have hn1 : (n : Int) ≤ 100 := by omega
  clear hlen hnc hc
  clear hst hbg h08 ht hks hh hb64 hbb hs0 hx hn
  go_enter Tryd.func4, Tryd.ntmps4
  go_wp2_with fail
  generalize (w.alloc (.cells (scells hs (uq q)) 31)).alloc (.cells (bcells bs) 32) = w2 at *
  have hq1 := fun w' => eql_states w' (blockW ks hs bs) (uq (q + 64#64)) (blockW_length ks hs bs Hh.out)
  have hq2 := fun w' => eql_sums w' (endW ks hs q (xs.take 63)) (endW_length _ _ _ _)
  have hq3 := fun w' => eql_states w' h0 0 H08.out
  have t1 := Ht.out.keep hb
  refine wp_region_segs [([4, 0, 1, 3], 2), ([], 5), ([6, 7, 9, 12, 8, 11], 10), ([], 13), ([14, 15, 16], 17), ([], 18)] [19, 20, 21] (by kernel_rfl) (by kernel_rfl) (by kernel_rfl) (by kernel_rfl) (fun _ _ d _ _ h => by cases d <;> exact h) ?_
  refine wpSegs_next (by simp [pickOps]; rfl) ?_
  repeat (go_big_quiet_step (fail))
  refine wpQuiet_load_cells (by rfl) 31 (.tmp 3) rfl w.heap.size 0 rfl (scells hs (uq q)) _ r1.drew.cells r1.lt Tryd.underlying31 rfl (by rw [Tryd.size31, scells_size, Hh.out]) ?_
  refine wpQuiet_load_cells (by rfl) 32 (.tmp 4) rfl (w.heap.size + 1) 0 rfl (bcells bs) _ r2.drew.cells r2.lt Tryd.underlying32 rfl (by rw [Tryd.size32, bcells_size, Hb64.out]) ?_
  refine wpQuiet_load_cells (by rfl) 31 (.tmp 3) rfl w.heap.size 0 rfl (scells hs (uq q)) _ r1.drew.cells r1.lt Tryd.underlying31 rfl (by rw [Tryd.size31, scells_size, Hh.out]) ?_
  refine wpQuiet_nil ?_
  refine wpOp_alone rfl rfl (fun K hK => ?_)
  go_simp
  refine (block_any h0 ks hs q bs w2.drew Hh.out Hb64.out Hbb.out (t1.keepB t1.1 (Below.refl _ _).drew) Hks.out).mono ?_
  rintro e w3 ⟨rfl, hb3⟩
  refine hK _ _ ⟨hb3, ?_⟩
  clear hK K
  have hb30 : Below w2.heap.size w2 w3 := ((Below.refl _ _).drew).trans hb3
  have a1 := r1.keep hb30
  have a2 := r2.keep hb30
  have ab := hb.trans (hb30.mono hb.size)
  clear r1 r2 hb hb3 hb30 t1
  refine wpSegs_next (by simp [pickOps]; rfl) ?_
  refine wpQuiet_nil ?_
  refine wpOp_alone rfl rfl (fun K hK => ?_)
  go_simp
  refine (rblock_any ks hs q (w.heap.size + 1) 0 64 bs w3 Hst.out Hh.out Hb64.out Hbb.out a2.lt (fun i hi => a2.cells i _ (bcells_at bs i (by rw [Hb64.out]; exact hi))) Hks.out).mono ?_
  rintro e w4 ⟨rfl, hb4⟩
  refine hK _ _ ⟨hb4, ?_⟩
  clear hK K
  have b1 := a1.keep hb4
  have bb := ab.trans (hb4.mono ab.size)
  clear a1 a2 ab hb4
  have t2 := Ht.out.keep bb
  generalize blockW ks hs bs = hs1 at *
  refine wpSegs_next (by simp [pickOps]; rfl) ?_
  repeat (go_big_quiet_step (fail))
  refine wpQuiet_load_cells (by rfl) 31 (.tmp 3) rfl w.heap.size 0 rfl (scells hs (uq q)) _ b1.cells b1.lt Tryd.underlying31 rfl (by rw [Tryd.size31, scells_size, Hh.out]) ?_
  refine wpQuiet_load_cells (by rfl) 31 (.tmp 3) rfl w.heap.size 0 rfl (scells hs (uq q)) _ b1.cells b1.lt Tryd.underlying31 rfl (by rw [Tryd.size31, scells_size, Hh.out]) ?_
  refine wpQuiet_nil ?_
  refine wpOp_alone rfl rfl (fun K hK => ?_)
  go_simp
  refine (end_all h0 ks hs q A n c xs w4 Hh.out t2 Hks.out (Hs.out.keep bb) Hx.out Hn.out Hm.out Hc.out).mono ?_
  rintro e w5 ⟨rfl, hb5⟩
  refine hK _ _ ⟨hb5, ?_⟩
  clear hK K
  have bb5 := bb.trans (hb5.mono bb.size)
  clear b1 bb hb5 t2
  refine wpSegs_next (by simp [pickOps]; rfl) ?_
  refine wpQuiet_nil ?_
  refine wpOp_alone rfl rfl (fun K hK => ?_)
  go_simp
  refine (rend_any ks hs q A n c xs w5 Hh.out Hst.out Hks.out (Hs.out.keep bb5) Hx.out Hn.out Hm.out Hc.out).mono ?_
  rintro e w6 ⟨rfl, hb6⟩
  refine hK _ _ ⟨hb6, ?_⟩
  clear hK K
  have bb6 := bb5.trans (hb6.mono bb5.size)
  clear bb5 hb6
  generalize endW ks hs q (xs.take 63) = out at *
  refine wpSegs_next (by simp [pickOps]; rfl) ?_
  repeat (go_big_quiet_step (fail))
  refine wpQuiet_nil ?_
  refine wpOp_alone rfl rfl (fun K hK => ?_)
  go_simp
  refine (start_any h0 ks w6 H08.out (Ht.out.keep bb6)).mono ?_
  rintro e w7 ⟨rfl, hb7⟩
  refine hK _ _ ⟨hb7, ?_⟩
  clear hK K
  have bb7 := bb6.trans (hb7.mono bb6.size)
  clear bb6 hb7
  refine wpSegs_next (by simp [pickOps]; rfl) ?_
  refine wpQuiet_nil ?_
  refine wpOp_alone rfl rfl (fun K hK => ?_)
  go_simp
  refine (Hbg.out w7).mono ?_
  rintro e w8 ⟨rfl, hb8⟩
  refine hK _ _ ⟨hb8, ?_⟩
  clear hK K
  have bb8 := bb7.trans (hb8.mono bb7.size)
  clear bb7 hb8
  refine wpSegs_last (by simp [pickOps]; rfl) ?_
  repeat (go_big_quiet_step (fail))
  refine wpQuiet_nil ?_
  go_wp2_with fail
  go_ret
  exact ⟨rfl, bb8⟩
set_option maxRecDepth 100000 in
set_option maxHeartbeats 4000000 in
theorem blocks_big (h0 ks hs : List Wd) (q : Qd) (bs : List Int) (A : Option Addr) (n c : Nat) (xs : List Int) (w : World) (hst : SinesTell ks) (hbg : BeginTells h0) (h08 : h0.length = 4) (ht : Tab w h0 ks) (hks : ks.length = 64) (hh : hs.length = 4) (hb64 : bs.length = 64) (hbb : IsBytes bs)
    (hs0 : Src .u8 w A xs) (hx : IsBytes xs) (hn : 100 = xs.length) (hlen : 100 < n) (hnc : n ≤ c) (hc : c ≤ 9223372036854775807) :
    Calls Tryd.prog 4 #[.agg (scells hs (uq q)), .agg (bcells bs), .slice A n c] w fun e w' => e = .returned (.bool true) ∧ Below w.heap.size w w' := by
  have Hst := Lib.hid hst
  have Hbg := Lib.hid hbg
  have H08 := Lib.hid h08
  have Ht := Lib.hid ht
  have Hks := Lib.hid hks
  have Hh := Lib.hid hh
  have Hb64 := Lib.hid hb64
  have Hbb := Lib.hid hbb
  have Hs := Lib.hid hs0
  have Hx := Lib.hid hx
  have Hn := Lib.hid hn
  have Hm : Hid (100 ≤ c) := Lib.hid (by omega)
  have Hc := Lib.hid hc
  obtain ⟨r1, r2, hb⟩ := rows2 w (scells hs (uq q)) (bcells bs) 31 32
  have hd : decide ((100 : Int) < (n : Int)) = true := by simp; omega
  have hn1 : (100 : Int) ≤ (c : Int) := by omega
  have hn2 : (c : Int) ≤ 9223372036854775807 := by omega
  clear hlen hnc hc
  clear hst hbg h08 ht hks hh hb64 hbb hs0 hx hn
  go_enter Tryd.func4, Tryd.ntmps4
  go_wp2_with fail
  generalize (w.alloc (.cells (scells hs (uq q)) 31)).alloc (.cells (bcells bs) 32) = w2 at *
  have hq1 := fun w' => eql_states w' (blockW ks hs bs) (uq (q + 64#64)) (blockW_length ks hs bs Hh.out)
  have hq2 := fun w' => eql_sums w' (endW ks hs q (xs.take 63)) (endW_length _ _ _ _)
  have hq3 := fun w' => eql_states w' h0 0 H08.out
  have t1 := Ht.out.keep hb
  refine wp_region_segs [([4, 0, 1, 3], 2), ([], 5), ([6, 7, 9, 12, 8, 11], 10), ([], 13), ([14, 15, 16], 17), ([], 18)] [19, 20, 21] (by kernel_rfl) (by kernel_rfl) (by kernel_rfl) (by kernel_rfl) (fun _ _ d _ _ h => by cases d <;> exact h) ?_
  refine wpSegs_next (by simp [pickOps]; rfl) ?_
  repeat (go_big_quiet_step (fail))
  refine wpQuiet_load_cells (by rfl) 31 (.tmp 3) rfl w.heap.size 0 rfl (scells hs (uq q)) _ r1.drew.cells r1.lt Tryd.underlying31 rfl (by rw [Tryd.size31, scells_size, Hh.out]) ?_
  refine wpQuiet_load_cells (by rfl) 32 (.tmp 4) rfl (w.heap.size + 1) 0 rfl (bcells bs) _ r2.drew.cells r2.lt Tryd.underlying32 rfl (by rw [Tryd.size32, bcells_size, Hb64.out]) ?_
  refine wpQuiet_load_cells (by rfl) 31 (.tmp 3) rfl w.heap.size 0 rfl (scells hs (uq q)) _ r1.drew.cells r1.lt Tryd.underlying31 rfl (by rw [Tryd.size31, scells_size, Hh.out]) ?_
  refine wpQuiet_nil ?_
  refine wpOp_alone rfl rfl (fun K hK => ?_)
  go_simp
  refine (block_any h0 ks hs q bs w2.drew Hh.out Hb64.out Hbb.out (t1.keepB t1.1 (Below.refl _ _).drew) Hks.out).mono ?_
  rintro e w3 ⟨rfl, hb3⟩
  refine hK _ _ ⟨hb3, ?_⟩
  clear hK K
  have hb30 : Below w2.heap.size w2 w3 := ((Below.refl _ _).drew).trans hb3
  have a1 := r1.keep hb30
  have a2 := r2.keep hb30
  have ab := hb.trans (hb30.mono hb.size)
  clear r1 r2 hb hb3 hb30 t1
  refine wpSegs_next (by simp [pickOps]; rfl) ?_
  refine wpQuiet_nil ?_
  refine wpOp_alone rfl rfl (fun K hK => ?_)
  go_simp
  refine (rblock_any ks hs q (w.heap.size + 1) 0 64 bs w3 Hst.out Hh.out Hb64.out Hbb.out a2.lt (fun i hi => a2.cells i _ (bcells_at bs i (by rw [Hb64.out]; exact hi))) Hks.out).mono ?_
  rintro e w4 ⟨rfl, hb4⟩
  refine hK _ _ ⟨hb4, ?_⟩
  clear hK K
  have b1 := a1.keep hb4
  have bb := ab.trans (hb4.mono ab.size)
  clear a1 a2 ab hb4
  have t2 := Ht.out.keep bb
  generalize blockW ks hs bs = hs1 at *
  refine wpSegs_next (by simp [pickOps]; rfl) ?_
  repeat (go_big_quiet_step (fail))
  refine wpQuiet_load_cells (by rfl) 31 (.tmp 3) rfl w.heap.size 0 rfl (scells hs (uq q)) _ b1.cells b1.lt Tryd.underlying31 rfl (by rw [Tryd.size31, scells_size, Hh.out]) ?_
  refine wpQuiet_load_cells (by rfl) 31 (.tmp 3) rfl w.heap.size 0 rfl (scells hs (uq q)) _ b1.cells b1.lt Tryd.underlying31 rfl (by rw [Tryd.size31, scells_size, Hh.out]) ?_
  refine wpQuiet_nil ?_
  refine wpOp_alone rfl rfl (fun K hK => ?_)
  go_simp
  refine (end_all h0 ks hs q A 100 c xs w4 Hh.out t2 Hks.out (Hs.out.keep bb) Hx.out Hn.out Hm.out Hc.out).mono ?_
  rintro e w5 ⟨rfl, hb5⟩
  refine hK _ _ ⟨hb5, ?_⟩
  clear hK K
  have bb5 := bb.trans (hb5.mono bb.size)
  clear b1 bb hb5 t2
  refine wpSegs_next (by simp [pickOps]; rfl) ?_
  refine wpQuiet_nil ?_
  refine wpOp_alone rfl rfl (fun K hK => ?_)
  go_simp
  refine (rend_any ks hs q A 100 c xs w5 Hh.out Hst.out Hks.out (Hs.out.keep bb5) Hx.out Hn.out Hm.out Hc.out).mono ?_
  rintro e w6 ⟨rfl, hb6⟩
  refine hK _ _ ⟨hb6, ?_⟩
  clear hK K
  have bb6 := bb5.trans (hb6.mono bb5.size)
  clear bb5 hb6
  generalize endW ks hs q (xs.take 63) = out at *
  refine wpSegs_next (by simp [pickOps]; rfl) ?_
  repeat (go_big_quiet_step (fail))
  refine wpQuiet_nil ?_
  refine wpOp_alone rfl rfl (fun K hK => ?_)
  go_simp
  refine (start_any h0 ks w6 H08.out (Ht.out.keep bb6)).mono ?_
  rintro e w7 ⟨rfl, hb7⟩
  refine hK _ _ ⟨hb7, ?_⟩
  clear hK K
  have bb7 := bb6.trans (hb7.mono bb6.size)
  clear bb6 hb7
  refine wpSegs_next (by simp [pickOps]; rfl) ?_
  refine wpQuiet_nil ?_
  refine wpOp_alone rfl rfl (fun K hK => ?_)
  go_simp
  refine (Hbg.out w7).mono ?_
  rintro e w8 ⟨rfl, hb8⟩
  refine hK _ _ ⟨hb8, ?_⟩
  clear hK K
  have bb8 := bb7.trans (hb8.mono bb7.size)
  clear bb7 hb8
  refine wpSegs_last (by simp [pickOps]; rfl) ?_
  repeat (go_big_quiet_step (fail))
  refine wpQuiet_nil ?_
  go_wp2_with fail
  go_ret
  exact ⟨rfl, bb8⟩
end Go.Proofs.YtfjkejdnbegomaaDoor.Md5

/- LabelBack's walk: any label, at any place, by any bits. No conditions but those that stand in each lemma. -/
import Derived.Test.YtcolicmefehcnaaDoorLblOpen
import Derived.Test.YtcolicmefehcnaaDoorLblEq
import Derived.Test.YtcolicmefehcnaaDoorLblTurn
namespace Go.Proofs.YtcolicmefehcnaaDoor
open Go.RowKit

/-- At a round's head: the bits below k are turned. -/
def LBAt (w : World) (xs : List Int) (t : Nat) (b : Wd) (G g c : Nat) (i : Value) (wr : World) : Prop :=
  ∃ (k : Nat) (ys : List Int), k ≤ 32 ∧ i = .int .i64 k ∧ Turned xs ys b t k ∧ Own wr G (some ⟨g, 0, none⟩) c ys ∧ Only g w wr
theorem place_4065 (a : Int) : ∃ t : Nat, (wrap64 (a.tmod 4065 + 4065)).tmod 4065 = (t : Int) ∧ t + 32 ≤ 4096 := by
  obtain ⟨t, h1, h2⟩ := place_ok a 512 (by omega) (by omega)
  exact ⟨t, h1, by omega⟩
set_option maxRecDepth 100000 in
set_option maxHeartbeats 8000000 in
theorem lback_any (q : Lb) (a : Int) (by_ : Wd) (w : World) (hq : q.Ok) (ht : Tab w) :
    Calls Tryd.prog 5 #[.agg (lcells q), .int .i64 a, .int .u32 (uv by_)] w fun e w' => e = .returned (.bool true) ∧ Below w.heap.size w w' := by
  have r1 := Row.new w 27 (lcells q)
  have b1 : Below w.heap.size w (w.alloc (.cells (lcells q) 27)) := (Below.refl _ _).alloc (Nat.le_refl _) _
  have HS := Lib.hid hq.root.shaL
  have HO := Lib.hid hq
  have HT := Lib.hid ht
  have HSl := Lib.hid (sealB_length q hq.root.shaL)
  have HSb := Lib.hid (sealB_bytes q hq.root.shaB)
  clear ht
  cases hR : q.right with
  | false =>
    have HR := Lib.hid hR
    clear hq hR
    go_enter Tryd.func5, Tryd.ntmps5
    go_wp2_with (refine wpList_loadL (.tmp 3) _ ltL rfl rfl w.heap.size rfl q HS.out r1 ?_)
    refine (seal_any q _ HO.out (HT.out.keep b1)).mono ?_
    rintro e w2 ⟨hb2, ⟨h, _⟩ | ⟨_, rfl⟩⟩
    · rw [HR.out] at h; cases h
    have b2 := b1.trans (hb2.mono b1.size)
    clear r1 b1 hb2
    go_wp2_with (refine wpList_build2 ltL (.const (.int .i64 1)) (.const (.int .i64 1)) rfl rfl 1 1 rfl rfl ?_)
    refine (seal_small 1 1 (by omega) (by omega) (by omega) (by omega) _ (HT.out.keep b2)).mono ?_
    rintro e w3 ⟨hb3, g3, c3, rfl, _⟩
    have b3 := b2.trans (hb3.mono b2.size)
    clear b2 hb3
    go_wp2_with fail
    go_ret
    exact ⟨rfl, b3⟩
  | true =>
    have HOp1 : Hid (∀ A c W, Below w.heap.size w W → Src .u8 W A (sealB q ++ [7]) → 513 ≤ c → c ≤ maxLen → Calls Tryd.prog 9 #[.slice A 513 c] W fun e w' => e = .returned (.tuple #[.agg (lcells q), .int .i64 0]) ∧ Below W.heap.size W w') :=
      Lib.hid (fun A c W hW hs h1 h2 => by
        refine (open_any A 513 c (sealB q ++ [7]) W (HT.out.keep hW) (by rw [List.length_append, HSl.out]; rfl) hs (HSb.out.append (fun x hx => by have := List.mem_singleton.1 hx; omega)) h1 (by unfold maxLen at h2; omega)).mono ?_
        rintro e w' ⟨rfl, hb⟩
        rw [(open_seal hq hR [7]).1, (open_seal hq hR [7]).2]
        exact ⟨rfl, hb⟩)
    have HOp2 : Hid (∀ A c ys W, Below w.heap.size w W → Src .u8 W A ys → IsBytes ys → ys.length = 512 → 512 ≤ c → c ≤ maxLen → Calls Tryd.prog 9 #[.slice A 512 c] W fun e w' => e = .returned (.tuple #[.agg (lcells (openL ys)), .int .i64 (openE ys)]) ∧ Below W.heap.size W w') :=
      Lib.hid (fun A c ys W hW hs hy hl h1 h2 => open_any A 512 c ys W (HT.out.keep hW) hl.symm hs hy h1 (by unfold maxLen at h2; omega))
    have HEnd : Hid (∀ t ys, Turned (sealB q) ys by_ t 32 → (by_ = 0#32 ∧ ys = sealB q) ∨ ((uv by_ == 0) = false ∧ (openE ys = 11 ∨ openE ys = 12))) := Lib.hid (fun t ys h => turned_end hq hR h)
    have HE0 := Lib.hid (open_seal' hq hR)
    have HR := Lib.hid hR
    clear hq hR
    go_enter Tryd.func5, Tryd.ntmps5
    go_wp2_with (refine wpList_loadL (.tmp 3) _ ltL rfl rfl w.heap.size rfl q HS.out r1 ?_)
    have lt1 := r1.lt
    refine (seal_any q _ HO.out (HT.out.keep b1)).mono ?_
    rintro e w2 ⟨hb2, ⟨_, g, c2, rfl, ho2⟩ | ⟨h, _⟩⟩
    rotate_left
    · rw [HR.out] at h; cases h
    have r2 := r1.keep hb2
    have b2 := b1.trans (hb2.mono b1.size)
    have HO2 := Lib.hid (ho2.more (B' := w.heap.size) (Nat.le_of_lt lt1))
    have hgw : w.heap.size < g := Nat.lt_of_lt_of_le lt1 (ho2.row g rfl)
    have lg2 := ho2.there
    clear r1 b1 hb2 ho2 lt1
    obtain ⟨xs, hxs⟩ : ∃ xs, xs = sealB q := ⟨_, rfl⟩
    rw [← hxs] at HSl HSb HOp1 HEnd HE0 HO2
    clear hxs
    have ha2 : Below w2.heap.size w2 (w2.alloc (.cells #[] 5)) := (Below.refl _ _).alloc (Nat.le_refl _) _
    have HK2 := Lib.hid (HO2.out.keep ha2).src
    have le2 := alloc_le w2 (.cells #[] 5)
    have HSl' := Lib.hid HSl.out.symm
    have s2 := b2.size
    go_wp2_with (first
      | (at_builtin; refine wpList_append_src rfl (.tmp 51) (.tmp 52) rfl w2.heap.size _ _ _ [] rfl rfl (own_made w2 _ (Nat.le_refl _)) (some ⟨g, 0, none⟩) 512 c2 xs rfl HSl'.out HK2.out (by omega) le2 ?_; rintro v w3 ⟨A3, n3, c3, rfl, hn3, ho3, hb3⟩; rw [List.nil_append] at hn3 ho3; rw [HSl.out] at hn3; subst hn3; have hb3' := ha2.trans hb3; have le3 := hb3'.size; have HO3 := Lib.hid (ho3.keep ((Below.refl _ _).alloc (Nat.le_refl _) (.cells #[.int .u8 7] 5))); have le3' := Nat.le_trans le3 (alloc_le w3 (.cells #[.int .u8 7] 5)); have hsn := src_new w3 7; clear hb3 ho3 ha2 le2)
      | (at_builtin; refine wpList_append_src rfl (.tmp 53) (.tmp 54) rfl w2.heap.size A3 512 c3 xs rfl HSl'.out HO3.out _ 1 1 [7] rfl rfl hsn (by omega) le3' ?_; rintro v w4 ⟨A4, n4, c4, rfl, hn4, ho4, hb4⟩; have hb4' := hb3'.trans (((Below.refl _ _).alloc le3 (.cells #[.int .u8 7] 5)).trans hb4); have HN4 := Lib.hid hn4; clear hn4 hb4 hb3' HO3 hsn le3 le3'))
    obtain rfl : n4 = 513 := by rw [HN4.out, List.length_append, HSl.out]; rfl
    have hcap := ho4.cap
    rw [List.length_append, HSl.out] at hcap
    have r4 := r2.keep hb4'
    have b4 := b2.trans (hb4'.mono s2)
    have HO4 := Lib.hid (HO2.out.keep hb4')
    have lg4 := Nat.lt_of_lt_of_le lg2 hb4'.size
    refine (HOp1.out A4 c4 _ b4 ho4.src hcap.1 hcap.2).mono ?_
    rintro e w5 ⟨rfl, hb5⟩
    have r5 := r4.keep hb5
    have b5 := b4.trans (hb5.mono b4.size)
    have HO5 := Lib.hid (HO4.out.keep hb5)
    have lg5 := Nat.lt_of_lt_of_le lg4 hb5.size
    clear HN4 ho4 hcap hb4' r2 b2 HO2 r4 b4 HO4 hb5 HK2 lg2 lg4 HOp1 s2
    go_wp2_with (first
      | (refine wpList_allocL ltL 13 rfl rfl rfl ?_; intro w6 r6 hb6 _)
      | (refine wpList_storeL ltL rfl (.tmp 13) (.tmp 57) rfl w5.heap.size rfl q rfl HS.out Lb.zero rfl r6 ?_; intro w7 p7 o7; have hb7 := hb6.trans o7.below; have r7 := r5.keep hb7; have b7 := b5.trans (hb7.mono b5.size); have HO7 := Lib.hid (HO5.out.keep hb7); clear r5 b5 HO5 hb6 r6 o7 hb7))
    obtain ⟨t, hat, htl⟩ := place_4065 a
    rw [hat]
    clear hat
    go_loopw [14] (fun i wr => LBAt w7 xs t by_ w.heap.size g c2 i wr) (fun i _ => 32 - (intOf i).toNat)
    case atStart => exact ⟨0, xs, by omega, rfl, turned_start HSl.out HSb.out by_ t, HO7.out, Only.refl _ _⟩
    case round =>
      obtain ⟨k, ys, hk, rfl, hT, ho, hb⟩ := hrel
      have HTu := Lib.hid hT
      clear hT
      by_cases hlt : k < 32
      · have hsh := shr_uv by_ k
        have hbt := tbit0_uv (by_ >>> k)
        rw [show (by_ >>> k).getLsbD 0 = by_.getLsbD k by rw [BitVec.getLsbD_ushiftRight, Nat.add_zero]] at hbt
        obtain ⟨qd, hq, hql⟩ : ∃ q : Nat, ((t : Int) + (k : Int)) / 8 = (q : Int) ∧ q = (t + k) / 8 := ⟨(t + k) / 8, by omega, rfl⟩
        obtain ⟨r, hr, hrl⟩ : ∃ r : Nat, ((t : Int) + (k : Int)) % 8 = (r : Int) ∧ r = (t + k) % 8 := ⟨(t + k) % 8, by omega, rfl⟩
        have hq1 : qd < 512 := by omega
        have hr8 : r < 8 := by omega
        have Hq := Lib.hid hql
        have Hr := Lib.hid hrl
        have Ho := Lib.hid ho
        have Hb := Lib.hid hb
        clear hql hrl hb
        cases h : by_.getLsbD k with
        | true =>
          have hand : bits .and .u32 (uv (by_ >>> k)) 1 = 1 := by rw [hbt, h]; rfl
          have hc1 := ho.at_ qd (by rw [HTu.out.1]; exact hq1)
          have hc2 := ho.free qd
          have Hh := Lib.hid h
          clear hbt h ho
          go_wp2_with fail
          go_roundw
          case rel =>
            have hyb := HTu.out.2.1
            have hf := flip_byte (ys.getD qd 0) r (hyb.at_ qd).1 (hyb.at_ qd).2 hr8
            have hq2 := Hq.out
            have hr2 := Hr.out
            rw [List.getD_eq_getElem?_getD] at hf
            refine ⟨k + 1, ys.set qd _, by omega, by go_num, ?_, Ho.out.set_ qd _, Hb.out.set qd _⟩
            rw [hq2]
            refine turned_set HTu.out HSl.out htl hlt Hh.out _ ?_ ?_
            · rw [← hq2]; exact hf.1
            · rw [List.getD_eq_getElem?_getD, ← hq2, ← hr2]
              exact hf.2
          case measure => simp [intOf]; omega
        | false =>
          have hand : bits .and .u32 (uv (by_ >>> k)) 1 = 0 := by rw [hbt, h]; rfl
          have Hh := Lib.hid h
          clear hbt h hq hr ho
          go_wp2_with fail
          go_roundw
          case rel => exact ⟨k + 1, ys, by omega, by go_num, turned_skip HTu.out Hh.out, Ho.out, Hb.out⟩
          case measure => simp [intOf]; omega
      · obtain rfl : k = 32 := by omega
        have HE := Lib.hid (HEnd.out t ys HTu.out)
        have r8 := hb.row r7 (by omega)
        have p8 := hb.row p7 (by omega)
        have b8 := b7.trans (hb.below.mono (Nat.le_of_lt hgw))
        have hcap := ho.cap
        rw [HTu.out.1] at hcap
        have HO8 := Lib.hid ho.src
        clear hb ho r7 p7 b7 HO7 HEnd hlt hk
        go_wp2_with fail
        refine (HOp2.out (some ⟨g, 0, none⟩) c2 ys _ b8 HO8.out HTu.out.2.1 HTu.out.1 hcap.1 hcap.2).mono ?_
        rintro e w9 ⟨rfl, hb9⟩
        have r9 := r8.keep hb9
        have p9 := p8.keep hb9
        have b9 := b8.trans (hb9.mono b8.size)
        have HLy := Lib.hid (openL_ok ys HTu.out.2.1).root.shaL
        clear r8 p8 b8 hb9 HO8 hcap
        rcases HE.out with ⟨hb0, hys⟩ | ⟨hb0, hE⟩
        · rw [hys, HE0.out.1, HE0.out.2]
          subst hb0
          have hz0 : (uv 0#32 == 0) = true := rfl
          have hz1 : uv 0#32 = 0 := rfl
          clear hys HE HTu HLy
          go_wp2_with (first
            | (refine wpList_allocL ltL 15 rfl rfl rfl ?_; intro w10 r10 hb10 _)
            | (refine wpList_storeL ltL rfl (.tmp 15) (.tmp 96) rfl w9.heap.size rfl q rfl HS.out Lb.zero rfl r10 ?_; intro w11 _ o11; have hb11 := hb10.trans o11.below; have r11 := r9.keep hb11; have p11 := p9.keep hb11; have b11 := b9.trans (hb11.mono b9.size); have ce := lrow_epoch r11; clear r9 p9 b9 hb10 r10 o11 hb11)
            | (refine wpList_loadL (.tmp 13) _ ltL rfl rfl w5.heap.size rfl q HS.out p11 ?_)
            | (refine wpList_loadL (.tmp 3) _ ltL rfl rfl w.heap.size rfl q HS.out r11 ?_)
            | (refine wpList_eqlL ltL guardL (.tmp 101) (.tmp 102) _ rfl rfl q q rfl rfl HS.out HS.out true (Lb.same_self q) ?_))
          go_ret
          exact ⟨by simp, b11⟩
        · have hby2 : (uv by_ != 0) = true := by unfold bne; rw [hb0]; rfl
          have hby3 : ¬ (uv by_ = 0) := by simpa using hb0
          clear HE
          obtain ⟨Y, hY⟩ : ∃ Y, Y = openL ys := ⟨_, rfl⟩
          rw [← hY] at HLy ⊢
          clear hY
          rcases hE with hE | hE
          · rw [hE]
            clear hE HTu
            go_wp2_with (first
              | (refine wpList_allocL ltL 15 rfl rfl rfl ?_; intro w10 r10 hb10 _)
              | (refine wpList_storeL ltL rfl (.tmp 15) (.tmp 96) rfl w9.heap.size rfl Y rfl HLy.out Lb.zero rfl r10 ?_; intro w11 _ o11; have hb11 := hb10.trans o11.below; have r11 := r9.keep hb11; have p11 := p9.keep hb11; have b11 := b9.trans (hb11.mono b9.size); have ce := lrow_epoch r11; clear r9 p9 b9 hb10 r10 o11 hb11)
              | (refine wpList_loadL (.tmp 13) _ ltL rfl rfl w5.heap.size rfl q HS.out p11 ?_)
              | (refine wpList_loadL (.tmp 3) _ ltL rfl rfl w.heap.size rfl q HS.out r11 ?_)
              | (refine wpList_eqlL ltL guardL (.tmp 101) (.tmp 102) _ rfl rfl q q rfl rfl HS.out HS.out true (Lb.same_self q) ?_))
            go_ret
            exact ⟨by simp, b11⟩
          · rw [hE]
            clear hE HTu
            go_wp2_with (first
              | (refine wpList_allocL ltL 15 rfl rfl rfl ?_; intro w10 r10 hb10 _)
              | (refine wpList_storeL ltL rfl (.tmp 15) (.tmp 96) rfl w9.heap.size rfl Y rfl HLy.out Lb.zero rfl r10 ?_; intro w11 _ o11; have hb11 := hb10.trans o11.below; have r11 := r9.keep hb11; have p11 := p9.keep hb11; have b11 := b9.trans (hb11.mono b9.size); have ce := lrow_epoch r11; clear r9 p9 b9 hb10 r10 o11 hb11)
              | (refine wpList_loadL (.tmp 13) _ ltL rfl rfl w5.heap.size rfl q HS.out p11 ?_)
              | (refine wpList_loadL (.tmp 3) _ ltL rfl rfl w.heap.size rfl q HS.out r11 ?_)
              | (refine wpList_eqlL ltL guardL (.tmp 101) (.tmp 102) _ rfl rfl q q rfl rfl HS.out HS.out true (Lb.same_self q) ?_))
            go_ret
            exact ⟨by simp, b11⟩
end Go.Proofs.YtcolicmefehcnaaDoor

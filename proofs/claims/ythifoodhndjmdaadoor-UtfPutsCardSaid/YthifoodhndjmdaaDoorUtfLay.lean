/- lay puts the bytes of a character behind a slice of the call's own; Put answers bytes with a character's behind them, in memory of the call's own. Conditions: the tables lie where they were laid; at most 900000 bytes. -/
import Derived.Test.YthifoodhndjmdaaDoorUtfNext
import Derived.Test.YthifoodhndjmdaaDoorDrawTail
import Derived.BigQuiet
import Derived.Deep.QuietTactic
import Derived.Laws.MakeOwn
namespace Go.Proofs.YthifoodhndjmdaaDoor
open Go.RowKit
namespace Utf

/-- The last j bytes of a character. -/
def restI (c : Int) : Nat → List Int
  | 0 => []
  | j + 1 => (128 + c / 64 ^ j % 64) :: restI c j
theorem form_rest (c : Int) : (sizeI c = 0 ∧ formI c = []) ∨ ∃ m, m < 4 ∧ sizeI c = m + 1 ∧ formI c = (markI m + c / 64 ^ m) :: restI c m ∧ 0 ≤ c ∧ c ≤ 1114111 := by
  rcases form_cases c with ⟨a, b, d⟩ | ⟨a, b, d⟩ | ⟨a, b, d⟩ | ⟨a, b, d⟩ | ⟨a, b, d⟩
  · exact .inl ⟨a, b⟩
  · exact .inr ⟨0, by omega, a, by rw [b]; simp [markI, restI], by omega⟩
  · exact .inr ⟨1, by omega, a, by rw [b]; simp [markI, restI], by omega⟩
  · exact .inr ⟨2, by omega, a, by rw [b]; simp [markI, restI], by omega⟩
  · exact .inr ⟨3, by omega, a, by rw [b]; simp [markI, restI], by omega⟩
theorem wp_append_src {w : World} {o : Oper} {a : Act} {Q : Exit → Act → World → Prop} {K : Act → World → Prop} (s x : Operand)
    (ho : o.op = .call { callee := .builtin .append, args := #[s, x], argTypes := #[27, 27] })
    (B : Nat) (A : Option Addr) (n c : Nat) (xs : List Int) (ea : a.eval s = .slice A n c) (hn : n = xs.length) (hown : Own w B A c xs)
    (S : Option Addr) (m d : Nat) (ys : List Int) (ex : a.eval x = .slice S m d) (hm : m = ys.length) (hs : Src .u8 w S ys) (hlen : n + m ≤ 1000000) (hB : B ≤ w.heap.size)
    (h : ∀ v' w', Grew w B (xs ++ ys) v' w' → K (a.put o.dst v') w') : o.wp Tryd.prog a w K Q := by
  subst hn; subst hm
  obtain ⟨v', w', hr, hg⟩ := run_append_src w o.type B A c xs hown S d ys hs hlen hB
  unfold Oper.wp execOp
  simp only [ho, resolve, invoke, builtin, Sem.run_bind, Sem.run_pure, Result.andThen_ok, List.map_toArray, List.map_cons, List.map_nil, ea, ex, hr]
  exact h v' w' hg

theorem Tab.above {w : World} (h : Tab w) (k : Nat) (hk : k < 4) : ∀ x : Above w, x.1.cell? ⟨0, k, none⟩ = some (.int .u8 (markI k)) := fun x => (h.keep x.2).2.2 k hk
/-- At a round's head: the character's last j bytes are to come. -/
def LyAt (w : World) (B : Nat) (xs : List Int) (c : Int) (v l : Value) (wr : World) : Prop :=
  ∃ (j : Nat) (A : Option Addr) (n d : Nat) (pre : List Int), j ≤ 3 ∧ l = .int .i64 (6 * (j : Int)) ∧ v = .slice A n d ∧ pre ++ restI c j = formI c ∧ 0 < pre.length ∧ n = (xs ++ pre).length ∧ Own wr B A d (xs ++ pre) ∧ Below B w wr
theorem or_zero8 (x : Int) (h0 : 0 ≤ x) (h1 : x < 128) : bits .or .u8 0 x = x := by
  have : ∀ j : Fin 256, bits .or .u8 0 (j.val : Int) = (j.val : Int) := by decide +kernel
  obtain ⟨m, rfl⟩ := Int.eq_ofNat_of_zero_le h0
  exact this ⟨m, by omega⟩
theorem rest_length (c : Int) : ∀ j, (restI c j).length = j
  | 0 => rfl
  | j + 1 => by rw [restI, List.length_cons, rest_length c j]
set_option maxRecDepth 100000 in
set_option maxHeartbeats 2000000 in
theorem lay_0 (B : Nat) (A : Option Addr) (n d : Nat) (xs : List Int) (c : Int) (w : World) (ht : Tab w) (hB : B ≤ w.heap.size) (hn : n = xs.length) (hown : Own w B A d xs) (hl : n ≤ 900000) (hsz : sizeI c = 1) :
    Calls Tryd.prog 19 #[.slice A n d, .int .i32 c] w fun e w' => ∃ v, e = .returned v ∧ Grew w B (xs ++ formI c) v w' := by
  have HC := Lib.hid (size_any c w ht)
  rw [hsz] at HC
  have cm := Tab.above (ht.keep (Below.refl _ _).drew) 0 (by omega)
  rw [show markI 0 = 0 from rfl] at cm
  obtain ⟨hc, h0, h1⟩ : formI c = (markI 0 + c / 64 ^ 0) :: restI c 0 ∧ 0 ≤ c ∧ c ≤ 127 := by
    rcases form_cases c with ⟨a, e, f⟩ | ⟨a, e, f⟩ | ⟨a, e, f⟩ | ⟨a, e, f⟩ | ⟨a, e, f⟩ <;> try omega
    rw [e]
    simp [markI, restI]
    omega
  have HLe := Lib.hid (form_length c)
  rw [hsz] at HLe
  obtain ⟨b, qb⟩ : ∃ b, markI 0 + c / 64 ^ 0 = b := ⟨_, rfl⟩
  rw [qb] at hc
  rw [show markI 0 = 0 from rfl] at qb
  have ob : bits .or .u8 0 c = b := by rw [← qb]; simpa using or_zero8 c (by omega) (by omega)
  have HFo := Lib.hid hc
  have HOwn := Lib.hid hown
  have Hn := Lib.hid hn
  clear hc hown hn qb
  go_enter Tryd.func19, Tryd.ntmps19
  go_wp2_with fail
  refine HC.out.mono ?_
  rintro e w1 ⟨rfl, rfl⟩
  go_wp2_with fail
  refine wp_region_segsU 11 [([0, 1, 2, 3, 4, 5, 6, 7, 8, 9], 10)] [] [11, 12] (by kernel_rfl) (by kernel_rfl) ⟨by kernel_rfl, by decide⟩ (by kernel_rfl) (by kernel_rfl) (fun _ _ d _ _ h => by cases d <;> exact h) ?_
  refine wpSegsU_next (by simp [pickOps]; rfl) ?_
  repeat (go_big_quiet_step (fail))
  refine wpQuiet_nil ?_
  refine wpOp_alone rfl rfl (fun K hK => ?_)
  go_simp
  refine hK _ _ ⟨(Below.refl _ _).alloc (Nat.le_refl _) _, ?_⟩
  clear hK K
  refine wpSegsU_last (by simp [pickOps]; rfl) ?_
  refine wpQuiet_nil ?_
  refine wpOp_alone rfl rfl (fun K hK => ?_)
  refine wp_append_src (.tmp 15) (.tmp 25) rfl B A n d xs rfl Hn.out (HOwn.out.keep (((Below.refl _ _).drew).alloc (Nat.le_refl _) _)) _ 1 1 [b] rfl rfl (src_new _ _) (by omega) (by simp; omega) ?_
  rintro v w2 ⟨A2, n2, d2, rfl, hn2, ho2, hb2⟩
  refine hK _ _ ?_
  clear hK K
  have HR : Hid (LyAt w1 B xs c (.slice A2 n2 d2) (.int .i64 0) w2) := Lib.hid ⟨0, A2, n2, d2, [b], by omega, rfl, rfl, by rw [HFo.out]; rfl, by simp, hn2, ho2, (((Below.refl _ _).drew).alloc hB _).trans hb2⟩
  clear hn2 ho2 hb2 cm HFo ob
  refine wpOp_alone rfl rfl (fun K hK => ?_)
  go_simp
  refine hK _ _ ?_
  clear hK K
  unfold wpTail
  go_wp2_with fail
  go_loopw [0, 6] (fun v l wr => LyAt w1 B xs c v l wr) (fun _ l _ => (intOf l).toNat)
  case atStart => exact HR.out
  case round =>
    clear HR
    obtain ⟨j, A2, n2, d2, pre, hj, rfl, rfl, hp, hpp, hn2, ho, hb⟩ := hrel
    have HPP := Lib.hid hpp
    have HP := Lib.hid hp
    have HN := Lib.hid hn2
    have HL := Lib.hid (show n2 ≤ 900004 by
      have e1 := congrArg List.length hp
      rw [List.length_append, HLe.out] at e1
      have e2 := Hn.out
      rw [List.length_append] at hn2
      omega)
    clear hp hn2 hpp
    by_cases hj0 : j = 0
    · subst hj0
      have HE := Lib.hid (show pre = formI c by have := HP.out; rw [restI, List.append_nil] at this; exact this)
      rw [show (6 : Int) * ((0 : Nat) : Int) = 0 from rfl]
      go_wp2_with fail
      go_ret
      exact ⟨_, rfl, A2, n2, d2, rfl, by rw [← HE.out]; exact HN.out, by rw [← HE.out]; exact ho, hb⟩
    · exfalso
      have e1 := congrArg List.length HP.out
      rw [List.length_append, HLe.out, rest_length] at e1
      have := HPP.out
      omega
set_option maxRecDepth 100000 in
set_option maxHeartbeats 2000000 in
theorem lay_1 (B : Nat) (A : Option Addr) (n d : Nat) (xs : List Int) (c : Int) (w : World) (ht : Tab w) (hB : B ≤ w.heap.size) (hn : n = xs.length) (hown : Own w B A d xs) (hl : n ≤ 900000) (hsz : sizeI c = 2) :
    Calls Tryd.prog 19 #[.slice A n d, .int .i32 c] w fun e w' => ∃ v, e = .returned v ∧ Grew w B (xs ++ formI c) v w' := by
  have HC := Lib.hid (size_any c w ht)
  rw [hsz] at HC
  have cm := Tab.above (ht.keep (Below.refl _ _).drew) 1 (by omega)
  rw [show markI 1 = 192 from rfl] at cm
  obtain ⟨hc, h0, h1⟩ : formI c = (markI 1 + c / 64 ^ 1) :: restI c 1 ∧ 0 ≤ c ∧ c ≤ 2047 := by
    rcases form_cases c with ⟨a, e, f⟩ | ⟨a, e, f⟩ | ⟨a, e, f⟩ | ⟨a, e, f⟩ | ⟨a, e, f⟩ <;> try omega
    rw [e]
    simp [markI, restI]
    omega
  have HLe := Lib.hid (form_length c)
  rw [hsz] at HLe
  obtain ⟨b, qb⟩ : ∃ b, markI 1 + c / 64 ^ 1 = b := ⟨_, rfl⟩
  rw [qb] at hc
  rw [show markI 1 = 192 from rfl] at qb
  have ob : 192 + c / 64 = b := by rw [← qb]; omega
  obtain ⟨b1, q1⟩ : ∃ b, 128 + c % 64 = b := ⟨_, rfl⟩
  have eb1 := Lib.hid (show restI c 1 = b1 :: restI c 0 by rw [← q1]; simp [restI])
  have HFo := Lib.hid hc
  have HOwn := Lib.hid hown
  have Hn := Lib.hid hn
  clear hc hown hn qb
  go_enter Tryd.func19, Tryd.ntmps19
  go_wp2_with fail
  refine HC.out.mono ?_
  rintro e w1 ⟨rfl, rfl⟩
  go_wp2_with fail
  refine wp_region_segsU 11 [([0, 1, 2, 3, 4, 5, 6, 7, 8, 9], 10)] [] [11, 12] (by kernel_rfl) (by kernel_rfl) ⟨by kernel_rfl, by decide⟩ (by kernel_rfl) (by kernel_rfl) (fun _ _ d _ _ h => by cases d <;> exact h) ?_
  refine wpSegsU_next (by simp [pickOps]; rfl) ?_
  repeat (go_big_quiet_step (fail))
  refine wpQuiet_nil ?_
  refine wpOp_alone rfl rfl (fun K hK => ?_)
  go_simp
  refine hK _ _ ⟨(Below.refl _ _).alloc (Nat.le_refl _) _, ?_⟩
  clear hK K
  refine wpSegsU_last (by simp [pickOps]; rfl) ?_
  refine wpQuiet_nil ?_
  refine wpOp_alone rfl rfl (fun K hK => ?_)
  refine wp_append_src (.tmp 15) (.tmp 25) rfl B A n d xs rfl Hn.out (HOwn.out.keep (((Below.refl _ _).drew).alloc (Nat.le_refl _) _)) _ 1 1 [b] rfl rfl (src_new _ _) (by omega) (by simp; omega) ?_
  rintro v w2 ⟨A2, n2, d2, rfl, hn2, ho2, hb2⟩
  refine hK _ _ ?_
  clear hK K
  have HR : Hid (LyAt w1 B xs c (.slice A2 n2 d2) (.int .i64 6) w2) := Lib.hid ⟨1, A2, n2, d2, [b], by omega, rfl, rfl, by rw [HFo.out]; rfl, by simp, hn2, ho2, (((Below.refl _ _).drew).alloc hB _).trans hb2⟩
  clear hn2 ho2 hb2 cm HFo ob
  refine wpOp_alone rfl rfl (fun K hK => ?_)
  go_simp
  refine hK _ _ ?_
  clear hK K
  unfold wpTail
  go_wp2_with fail
  go_loopw [0, 6] (fun v l wr => LyAt w1 B xs c v l wr) (fun _ l _ => (intOf l).toNat)
  case atStart => exact HR.out
  case round =>
    clear HR
    obtain ⟨j, A2, n2, d2, pre, hj, rfl, rfl, hp, hpp, hn2, ho, hb⟩ := hrel
    have HPP := Lib.hid hpp
    have HP := Lib.hid hp
    have HN := Lib.hid hn2
    have HL := Lib.hid (show n2 ≤ 900004 by
      have e1 := congrArg List.length hp
      rw [List.length_append, HLe.out] at e1
      have e2 := Hn.out
      rw [List.length_append] at hn2
      omega)
    clear hp hn2 hpp
    by_cases hj0 : j = 0
    · subst hj0
      have HE := Lib.hid (show pre = formI c by have := HP.out; rw [restI, List.append_nil] at this; exact this)
      rw [show (6 : Int) * ((0 : Nat) : Int) = 0 from rfl]
      go_wp2_with fail
      go_ret
      exact ⟨_, rfl, A2, n2, d2, rfl, by rw [← HE.out]; exact HN.out, by rw [← HE.out]; exact ho, hb⟩
    by_cases hj1 : j = 1
    · subst hj1
      have HF : Hid (pre ++ [b1] ++ restI c 0 = formI c) := Lib.hid (by rw [← HP.out, List.append_assoc, List.singleton_append, eb1.out])
      have hnl := HN.out
      rw [show (6 : Int) * ((1 : Nat) : Int) = 6 from rfl]
      go_wp2_with (at_builtin; refine wpList_append_src rfl _ _ rfl B A2 n2 d2 (xs ++ pre) rfl HN.out (ho.keep ((Below.refl _ _).alloc (Nat.le_refl _) _)) _ 1 1 [b1] rfl rfl (src_new _ _) (by have := HL.out; omega) (by have := hb.size; simp; omega) ?_; rintro v w3 ⟨A3, n3, d3, rfl, hn3, ho3, hb3⟩; have HN3 := Lib.hid hn3; clear hn3)
      refine ⟨⟨0, A3, n3, d3, pre ++ [b1], by omega, by rfl, rfl, HF.out, by simp, by rw [← List.append_assoc]; exact HN3.out, by rw [← List.append_assoc]; exact ho3, ((hb.alloc (Nat.le_trans hB hb.size) _)).trans hb3⟩, ?_⟩
      simp [intOf]
    · exfalso
      have e1 := congrArg List.length HP.out
      rw [List.length_append, HLe.out, rest_length] at e1
      have := HPP.out
      omega
set_option maxRecDepth 100000 in
set_option maxHeartbeats 2000000 in
theorem lay_2 (B : Nat) (A : Option Addr) (n d : Nat) (xs : List Int) (c : Int) (w : World) (ht : Tab w) (hB : B ≤ w.heap.size) (hn : n = xs.length) (hown : Own w B A d xs) (hl : n ≤ 900000) (hsz : sizeI c = 3) :
    Calls Tryd.prog 19 #[.slice A n d, .int .i32 c] w fun e w' => ∃ v, e = .returned v ∧ Grew w B (xs ++ formI c) v w' := by
  have HC := Lib.hid (size_any c w ht)
  rw [hsz] at HC
  have cm := Tab.above (ht.keep (Below.refl _ _).drew) 2 (by omega)
  rw [show markI 2 = 224 from rfl] at cm
  obtain ⟨hc, h0, h1⟩ : formI c = (markI 2 + c / 64 ^ 2) :: restI c 2 ∧ 0 ≤ c ∧ c ≤ 65535 := by
    rcases form_cases c with ⟨a, e, f⟩ | ⟨a, e, f⟩ | ⟨a, e, f⟩ | ⟨a, e, f⟩ | ⟨a, e, f⟩ <;> try omega
    rw [e]
    simp [markI, restI]
    omega
  have HLe := Lib.hid (form_length c)
  rw [hsz] at HLe
  obtain ⟨b, qb⟩ : ∃ b, markI 2 + c / 64 ^ 2 = b := ⟨_, rfl⟩
  rw [qb] at hc
  rw [show markI 2 = 224 from rfl] at qb
  have ob : 224 + c / 4096 = b := by rw [← qb]; omega
  obtain ⟨b1, q1⟩ : ∃ b, 128 + c % 64 = b := ⟨_, rfl⟩
  have eb1 := Lib.hid (show restI c 1 = b1 :: restI c 0 by rw [← q1]; simp [restI])
  obtain ⟨b2, q2⟩ : ∃ b, 128 + c / 64 % 64 = b := ⟨_, rfl⟩
  have eb2 := Lib.hid (show restI c 2 = b2 :: restI c 1 by rw [← q2]; simp [restI])
  have HFo := Lib.hid hc
  have HOwn := Lib.hid hown
  have Hn := Lib.hid hn
  clear hc hown hn qb
  go_enter Tryd.func19, Tryd.ntmps19
  go_wp2_with fail
  refine HC.out.mono ?_
  rintro e w1 ⟨rfl, rfl⟩
  go_wp2_with fail
  refine wp_region_segsU 11 [([0, 1, 2, 3, 4, 5, 6, 7, 8, 9], 10)] [] [11, 12] (by kernel_rfl) (by kernel_rfl) ⟨by kernel_rfl, by decide⟩ (by kernel_rfl) (by kernel_rfl) (fun _ _ d _ _ h => by cases d <;> exact h) ?_
  refine wpSegsU_next (by simp [pickOps]; rfl) ?_
  repeat (go_big_quiet_step (fail))
  refine wpQuiet_nil ?_
  refine wpOp_alone rfl rfl (fun K hK => ?_)
  go_simp
  refine hK _ _ ⟨(Below.refl _ _).alloc (Nat.le_refl _) _, ?_⟩
  clear hK K
  refine wpSegsU_last (by simp [pickOps]; rfl) ?_
  refine wpQuiet_nil ?_
  refine wpOp_alone rfl rfl (fun K hK => ?_)
  refine wp_append_src (.tmp 15) (.tmp 25) rfl B A n d xs rfl Hn.out (HOwn.out.keep (((Below.refl _ _).drew).alloc (Nat.le_refl _) _)) _ 1 1 [b] rfl rfl (src_new _ _) (by omega) (by simp; omega) ?_
  rintro v w2 ⟨A2, n2, d2, rfl, hn2, ho2, hb2⟩
  refine hK _ _ ?_
  clear hK K
  have HR : Hid (LyAt w1 B xs c (.slice A2 n2 d2) (.int .i64 12) w2) := Lib.hid ⟨2, A2, n2, d2, [b], by omega, rfl, rfl, by rw [HFo.out]; rfl, by simp, hn2, ho2, (((Below.refl _ _).drew).alloc hB _).trans hb2⟩
  clear hn2 ho2 hb2 cm HFo ob
  refine wpOp_alone rfl rfl (fun K hK => ?_)
  go_simp
  refine hK _ _ ?_
  clear hK K
  unfold wpTail
  go_wp2_with fail
  go_loopw [0, 6] (fun v l wr => LyAt w1 B xs c v l wr) (fun _ l _ => (intOf l).toNat)
  case atStart => exact HR.out
  case round =>
    clear HR
    obtain ⟨j, A2, n2, d2, pre, hj, rfl, rfl, hp, hpp, hn2, ho, hb⟩ := hrel
    have HPP := Lib.hid hpp
    have HP := Lib.hid hp
    have HN := Lib.hid hn2
    have HL := Lib.hid (show n2 ≤ 900004 by
      have e1 := congrArg List.length hp
      rw [List.length_append, HLe.out] at e1
      have e2 := Hn.out
      rw [List.length_append] at hn2
      omega)
    clear hp hn2 hpp
    by_cases hj0 : j = 0
    · subst hj0
      have HE := Lib.hid (show pre = formI c by have := HP.out; rw [restI, List.append_nil] at this; exact this)
      rw [show (6 : Int) * ((0 : Nat) : Int) = 0 from rfl]
      go_wp2_with fail
      go_ret
      exact ⟨_, rfl, A2, n2, d2, rfl, by rw [← HE.out]; exact HN.out, by rw [← HE.out]; exact ho, hb⟩
    by_cases hj1 : j = 1
    · subst hj1
      have HF : Hid (pre ++ [b1] ++ restI c 0 = formI c) := Lib.hid (by rw [← HP.out, List.append_assoc, List.singleton_append, eb1.out])
      have hnl := HN.out
      rw [show (6 : Int) * ((1 : Nat) : Int) = 6 from rfl]
      go_wp2_with (at_builtin; refine wpList_append_src rfl _ _ rfl B A2 n2 d2 (xs ++ pre) rfl HN.out (ho.keep ((Below.refl _ _).alloc (Nat.le_refl _) _)) _ 1 1 [b1] rfl rfl (src_new _ _) (by have := HL.out; omega) (by have := hb.size; simp; omega) ?_; rintro v w3 ⟨A3, n3, d3, rfl, hn3, ho3, hb3⟩; have HN3 := Lib.hid hn3; clear hn3)
      refine ⟨⟨0, A3, n3, d3, pre ++ [b1], by omega, by rfl, rfl, HF.out, by simp, by rw [← List.append_assoc]; exact HN3.out, by rw [← List.append_assoc]; exact ho3, ((hb.alloc (Nat.le_trans hB hb.size) _)).trans hb3⟩, ?_⟩
      simp [intOf]
    by_cases hj2 : j = 2
    · subst hj2
      have HF : Hid (pre ++ [b2] ++ restI c 1 = formI c) := Lib.hid (by rw [← HP.out, List.append_assoc, List.singleton_append, eb2.out])
      have hnl := HN.out
      rw [show (6 : Int) * ((2 : Nat) : Int) = 12 from rfl]
      go_wp2_with (at_builtin; refine wpList_append_src rfl _ _ rfl B A2 n2 d2 (xs ++ pre) rfl HN.out (ho.keep ((Below.refl _ _).alloc (Nat.le_refl _) _)) _ 1 1 [b2] rfl rfl (src_new _ _) (by have := HL.out; omega) (by have := hb.size; simp; omega) ?_; rintro v w3 ⟨A3, n3, d3, rfl, hn3, ho3, hb3⟩; have HN3 := Lib.hid hn3; clear hn3)
      refine ⟨⟨1, A3, n3, d3, pre ++ [b2], by omega, by rfl, rfl, HF.out, by simp, by rw [← List.append_assoc]; exact HN3.out, by rw [← List.append_assoc]; exact ho3, ((hb.alloc (Nat.le_trans hB hb.size) _)).trans hb3⟩, ?_⟩
      simp [intOf]
    · exfalso
      have e1 := congrArg List.length HP.out
      rw [List.length_append, HLe.out, rest_length] at e1
      have := HPP.out
      omega
set_option maxRecDepth 100000 in
set_option maxHeartbeats 2000000 in
theorem lay_3 (B : Nat) (A : Option Addr) (n d : Nat) (xs : List Int) (c : Int) (w : World) (ht : Tab w) (hB : B ≤ w.heap.size) (hn : n = xs.length) (hown : Own w B A d xs) (hl : n ≤ 900000) (hsz : sizeI c = 4) :
    Calls Tryd.prog 19 #[.slice A n d, .int .i32 c] w fun e w' => ∃ v, e = .returned v ∧ Grew w B (xs ++ formI c) v w' := by
  have HC := Lib.hid (size_any c w ht)
  rw [hsz] at HC
  have cm := Tab.above (ht.keep (Below.refl _ _).drew) 3 (by omega)
  rw [show markI 3 = 240 from rfl] at cm
  obtain ⟨hc, h0, h1⟩ : formI c = (markI 3 + c / 64 ^ 3) :: restI c 3 ∧ 0 ≤ c ∧ c ≤ 1114111 := by
    rcases form_cases c with ⟨a, e, f⟩ | ⟨a, e, f⟩ | ⟨a, e, f⟩ | ⟨a, e, f⟩ | ⟨a, e, f⟩ <;> try omega
    rw [e]
    simp [markI, restI]
    omega
  have HLe := Lib.hid (form_length c)
  rw [hsz] at HLe
  obtain ⟨b, qb⟩ : ∃ b, markI 3 + c / 64 ^ 3 = b := ⟨_, rfl⟩
  rw [qb] at hc
  rw [show markI 3 = 240 from rfl] at qb
  have ob : 240 + c / 262144 = b := by rw [← qb]; omega
  obtain ⟨b1, q1⟩ : ∃ b, 128 + c % 64 = b := ⟨_, rfl⟩
  have eb1 := Lib.hid (show restI c 1 = b1 :: restI c 0 by rw [← q1]; simp [restI])
  obtain ⟨b2, q2⟩ : ∃ b, 128 + c / 64 % 64 = b := ⟨_, rfl⟩
  have eb2 := Lib.hid (show restI c 2 = b2 :: restI c 1 by rw [← q2]; simp [restI])
  obtain ⟨b3, q3⟩ : ∃ b, 128 + c / 4096 % 64 = b := ⟨_, rfl⟩
  have eb3 := Lib.hid (show restI c 3 = b3 :: restI c 2 by rw [← q3]; simp [restI])
  have HFo := Lib.hid hc
  have HOwn := Lib.hid hown
  have Hn := Lib.hid hn
  clear hc hown hn qb
  go_enter Tryd.func19, Tryd.ntmps19
  go_wp2_with fail
  refine HC.out.mono ?_
  rintro e w1 ⟨rfl, rfl⟩
  go_wp2_with fail
  refine wp_region_segsU 11 [([0, 1, 2, 3, 4, 5, 6, 7, 8, 9], 10)] [] [11, 12] (by kernel_rfl) (by kernel_rfl) ⟨by kernel_rfl, by decide⟩ (by kernel_rfl) (by kernel_rfl) (fun _ _ d _ _ h => by cases d <;> exact h) ?_
  refine wpSegsU_next (by simp [pickOps]; rfl) ?_
  repeat (go_big_quiet_step (fail))
  refine wpQuiet_nil ?_
  refine wpOp_alone rfl rfl (fun K hK => ?_)
  go_simp
  refine hK _ _ ⟨(Below.refl _ _).alloc (Nat.le_refl _) _, ?_⟩
  clear hK K
  refine wpSegsU_last (by simp [pickOps]; rfl) ?_
  refine wpQuiet_nil ?_
  refine wpOp_alone rfl rfl (fun K hK => ?_)
  refine wp_append_src (.tmp 15) (.tmp 25) rfl B A n d xs rfl Hn.out (HOwn.out.keep (((Below.refl _ _).drew).alloc (Nat.le_refl _) _)) _ 1 1 [b] rfl rfl (src_new _ _) (by omega) (by simp; omega) ?_
  rintro v w2 ⟨A2, n2, d2, rfl, hn2, ho2, hb2⟩
  refine hK _ _ ?_
  clear hK K
  have HR : Hid (LyAt w1 B xs c (.slice A2 n2 d2) (.int .i64 18) w2) := Lib.hid ⟨3, A2, n2, d2, [b], by omega, rfl, rfl, by rw [HFo.out]; rfl, by simp, hn2, ho2, (((Below.refl _ _).drew).alloc hB _).trans hb2⟩
  clear hn2 ho2 hb2 cm HFo ob
  refine wpOp_alone rfl rfl (fun K hK => ?_)
  go_simp
  refine hK _ _ ?_
  clear hK K
  unfold wpTail
  go_wp2_with fail
  go_loopw [0, 6] (fun v l wr => LyAt w1 B xs c v l wr) (fun _ l _ => (intOf l).toNat)
  case atStart => exact HR.out
  case round =>
    clear HR
    obtain ⟨j, A2, n2, d2, pre, hj, rfl, rfl, hp, hpp, hn2, ho, hb⟩ := hrel
    have HPP := Lib.hid hpp
    have HP := Lib.hid hp
    have HN := Lib.hid hn2
    have HL := Lib.hid (show n2 ≤ 900004 by
      have e1 := congrArg List.length hp
      rw [List.length_append, HLe.out] at e1
      have e2 := Hn.out
      rw [List.length_append] at hn2
      omega)
    clear hp hn2 hpp
    by_cases hj0 : j = 0
    · subst hj0
      have HE := Lib.hid (show pre = formI c by have := HP.out; rw [restI, List.append_nil] at this; exact this)
      rw [show (6 : Int) * ((0 : Nat) : Int) = 0 from rfl]
      go_wp2_with fail
      go_ret
      exact ⟨_, rfl, A2, n2, d2, rfl, by rw [← HE.out]; exact HN.out, by rw [← HE.out]; exact ho, hb⟩
    by_cases hj1 : j = 1
    · subst hj1
      have HF : Hid (pre ++ [b1] ++ restI c 0 = formI c) := Lib.hid (by rw [← HP.out, List.append_assoc, List.singleton_append, eb1.out])
      have hnl := HN.out
      rw [show (6 : Int) * ((1 : Nat) : Int) = 6 from rfl]
      go_wp2_with (at_builtin; refine wpList_append_src rfl _ _ rfl B A2 n2 d2 (xs ++ pre) rfl HN.out (ho.keep ((Below.refl _ _).alloc (Nat.le_refl _) _)) _ 1 1 [b1] rfl rfl (src_new _ _) (by have := HL.out; omega) (by have := hb.size; simp; omega) ?_; rintro v w3 ⟨A3, n3, d3, rfl, hn3, ho3, hb3⟩; have HN3 := Lib.hid hn3; clear hn3)
      refine ⟨⟨0, A3, n3, d3, pre ++ [b1], by omega, by rfl, rfl, HF.out, by simp, by rw [← List.append_assoc]; exact HN3.out, by rw [← List.append_assoc]; exact ho3, ((hb.alloc (Nat.le_trans hB hb.size) _)).trans hb3⟩, ?_⟩
      simp [intOf]
    by_cases hj2 : j = 2
    · subst hj2
      have HF : Hid (pre ++ [b2] ++ restI c 1 = formI c) := Lib.hid (by rw [← HP.out, List.append_assoc, List.singleton_append, eb2.out])
      have hnl := HN.out
      rw [show (6 : Int) * ((2 : Nat) : Int) = 12 from rfl]
      go_wp2_with (at_builtin; refine wpList_append_src rfl _ _ rfl B A2 n2 d2 (xs ++ pre) rfl HN.out (ho.keep ((Below.refl _ _).alloc (Nat.le_refl _) _)) _ 1 1 [b2] rfl rfl (src_new _ _) (by have := HL.out; omega) (by have := hb.size; simp; omega) ?_; rintro v w3 ⟨A3, n3, d3, rfl, hn3, ho3, hb3⟩; have HN3 := Lib.hid hn3; clear hn3)
      refine ⟨⟨1, A3, n3, d3, pre ++ [b2], by omega, by rfl, rfl, HF.out, by simp, by rw [← List.append_assoc]; exact HN3.out, by rw [← List.append_assoc]; exact ho3, ((hb.alloc (Nat.le_trans hB hb.size) _)).trans hb3⟩, ?_⟩
      simp [intOf]
    by_cases hj3 : j = 3
    · subst hj3
      have HF : Hid (pre ++ [b3] ++ restI c 2 = formI c) := Lib.hid (by rw [← HP.out, List.append_assoc, List.singleton_append, eb3.out])
      have hnl := HN.out
      rw [show (6 : Int) * ((3 : Nat) : Int) = 18 from rfl]
      go_wp2_with (at_builtin; refine wpList_append_src rfl _ _ rfl B A2 n2 d2 (xs ++ pre) rfl HN.out (ho.keep ((Below.refl _ _).alloc (Nat.le_refl _) _)) _ 1 1 [b3] rfl rfl (src_new _ _) (by have := HL.out; omega) (by have := hb.size; simp; omega) ?_; rintro v w3 ⟨A3, n3, d3, rfl, hn3, ho3, hb3⟩; have HN3 := Lib.hid hn3; clear hn3)
      refine ⟨⟨2, A3, n3, d3, pre ++ [b3], by omega, by rfl, rfl, HF.out, by simp, by rw [← List.append_assoc]; exact HN3.out, by rw [← List.append_assoc]; exact ho3, ((hb.alloc (Nat.le_trans hB hb.size) _)).trans hb3⟩, ?_⟩
      simp [intOf]
    · exfalso
      have e1 := congrArg List.length HP.out
      rw [List.length_append, HLe.out, rest_length] at e1
      have := HPP.out
      omega
theorem lay_any (B : Nat) (A : Option Addr) (n d : Nat) (xs : List Int) (c : Int) (w : World) (ht : Tab w) (hB : B ≤ w.heap.size) (hn : n = xs.length) (hown : Own w B A d xs) (hl : n ≤ 900000) :
    Calls Tryd.prog 19 #[.slice A n d, .int .i32 c] w fun e w' => ∃ v, e = .returned v ∧ Grew w B (xs ++ formI c) v w' := by
  rcases form_cases c with ⟨a, e, _⟩ | ⟨a, _⟩ | ⟨a, _⟩ | ⟨a, _⟩ | ⟨a, _⟩
  · have HC := Lib.hid (size_any c w ht)
    rw [a] at HC
    have HE := Lib.hid e
    have HOwn := Lib.hid hown
    have Hn := Lib.hid hn
    clear e hown hn
    go_enter Tryd.func19, Tryd.ntmps19
    go_wp2_with fail
    refine HC.out.mono ?_
    rintro e w1 ⟨rfl, rfl⟩
    go_wp2_with fail
    go_ret
    exact ⟨_, rfl, A, n, d, rfl, by rw [HE.out, List.append_nil]; exact Hn.out, by rw [HE.out, List.append_nil]; exact HOwn.out, Below.refl _ _⟩
  · exact lay_0 B A n d xs c w ht hB hn hown hl a
  · exact lay_1 B A n d xs c w ht hB hn hown hl a
  · exact lay_2 B A n d xs c w ht hB hn hown hl a
  · exact lay_3 B A n d xs c w ht hB hn hown hl a

theorem make_bytes (n : Nat) (h : n ≤ 1000000) : ∃ cur : Array Value, cur.size = n ∧ ∀ w : World, (Instr.makeSlice 27 (.int .i64 0) (.int .i64 (n : Int))).run Tryd.prog w = .ok (.slice (some ⟨w.heap.size, 0, none⟩) 0 n) (w.alloc (.cells cur 5)) := by
  obtain ⟨i, hi, hz, hz1, hz2⟩ := info_parts Tryd.info5
  refine ⟨madeCells (Value.cells (.int .u8 0)) (n * i.size), by rw [size_madeCells, hz1, Nat.mul_one], fun w => ?_⟩
  have := run_make (P := Tryd.prog) w 27 5 i _ Tryd.underlying27 hi hz .i64 .i64 0 (n : Int) (by omega) (by omega) (by rw [hz2]; omega) (by omega)
  simpa using this
set_option maxRecDepth 100000 in
set_option maxHeartbeats 2000000 in
theorem put_any (A : Option Addr) (n d : Nat) (xs : List Int) (c : Int) (w : World) (ht : Tab w) (hn : n = xs.length) (hs : Src .u8 w A xs) (hl : n ≤ 800000) :
    Calls Tryd.prog 14 #[.slice A n d, .int .i32 c] w (Gives w (xs ++ formI c)) := by
  have HC := Lib.hid (fun w' (h : Tab w') => size_any c w' h)
  have h4 := size_le c
  obtain ⟨q, eq⟩ : ∃ q, sizeI c = q := ⟨_, rfl⟩
  rw [eq] at HC h4
  obtain ⟨cur, hc0, hm⟩ := make_bytes (n + q) (by omega)
  have o0 := Lib.hid (fun w' : World => (show Own (w'.alloc (.cells cur 5)) w'.heap.size (some ⟨w'.heap.size, 0, none⟩) (n + q) [] from World.ownsRow_made w' cur (n + q) (Nat.le_refl _) (by unfold maxLen; omega) (by rw [hc0, Nat.mul_one])))
  have Hn := Lib.hid hn
  have Hs := Lib.hid hs
  have Ht := Lib.hid ht
  have hnl : (n : Int) ≤ 800000 := by omega
  rw [show ((n + q : Nat) : Int) = (n : Int) + (q : Int) by omega] at hm
  have b0 := Lib.hid ((Below.refl w.heap.size w).alloc (Nat.le_refl _) (.cells cur 5))
  clear hn hs ht eq hc0
  go_enter Tryd.func14, Tryd.ntmps14
  go_wp2_with fail
  refine (HC.out _ Ht.out).mono ?_
  rintro e w1 ⟨rfl, rfl⟩
  have ho := o0.out w1
  go_wp2_with (at_builtin; refine wpList_append_src rfl (.tmp 12) (.tmp 13) rfl w1.heap.size _ 0 (n + q) [] rfl rfl ho A n d xs rfl Hn.out (Hs.out.keep b0.out) (by omega) (by simp) ?_; rintro v w3 ⟨A3, n3, d3, rfl, hn3, ho3, hb3⟩; rw [List.nil_append] at hn3 ho3; have HN3 := Lib.hid hn3; clear hn3)
  have b3 := b0.out.trans hb3
  refine (lay_any w1.heap.size A3 n3 d3 xs c w3 (Ht.out.keep b3) b3.size HN3.out ho3 (by have := HN3.out; have := Hn.out; omega)).mono ?_
  rintro e w4 ⟨v, rfl, A4, n4, d4, rfl, hn4, ho4, hb4⟩
  have HN4 := Lib.hid hn4
  clear hn4
  go_wp2_with fail
  go_ret
  exact ⟨_, rfl, A4, n4, d4, rfl, HN4.out, ho4, b3.trans hb4⟩
end Utf
end Go.Proofs.YthifoodhndjmdaaDoor

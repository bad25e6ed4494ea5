/- Law 12's own taking and giving back, each done alone: on a memory whose free slots are a stack. -/
import Derived.Test.YtmeghmlojnbmbaaDoorPoolNext
import Derived.Test.YtmeghmlojnbmbaaDoorPoolStackMath
import Derived.Test.YtmeghmlojnbmbaaDoorDeedDo
import Derived.Test.YtmeghmlojnbmbaaDoorQueue
namespace Go.Proofs.YtmeghmlojnbmbaaDoor.Law12
set_option maxRecDepth 20000
open Go.ChangeShapes Go.WideShapes Go.RowKit CM DM PM PoM Runs Lay Plan Pool Go.Proofs.YtmeghmlojnbmbaaDoor.Task
open Go.Proofs.YtmeghmlojnbmbaaDoor.Cells (Mem)
set_option linter.unusedVariables false
set_option linter.unusedSimpArgs false

/-- Amid the deeds. -/
def popAt (w : World) (pc h n p : Nat) (T S L G i : Int) (l' : List Int) (s' : St) (j : Nat) (wr : World) : Prop :=
  ∃ l s, j ≤ 19 ∧ Mem wr pc h n l ∧ BM.Fits l ∧ Pops wr p T S L G s ∧ alone (popA T L) popT (19 - j) l s = (l', s') ∧ Only (fun k => k = h) w wr
set_option maxHeartbeats 1000000 in
theorem pop_alone {pc h n : Nat} {l l' : List Int} {s' : St} {w : World} (T S L G i : Int) (hM : Mem w pc h n l) (hF : BM.Fits l) (hA : alone (popA T L) popT 19 l ⟨1, 0, 0⟩ = (l', s')) (hd : popA T L s' = none) :
    Calls Tryd.prog 19 #[.pointer (some ⟨pc, 0, none⟩), .agg #[.int .i64 T, .int .i64 S, .int .i64 L, .int .u64 G]] w fun e w' => e = .returned (.int .i64 (popI s')) ∧ Mem w' pc h n l' ∧ BM.Fits l' ∧ Only (fun k => k = h) w w' := by
  have HM := Lib.hid hM
  have HF := Lib.hid hF
  have HA := Lib.hid hA
  have HD := Lib.hid hd
  obtain ⟨c_0, c_1, c_2, c_3⟩ := box4 w (.int .i64 T) (.int .i64 S) (.int .i64 L) (.int .u64 G) 24
  clear hM hF hA hd
  go_enter Tryd.func19, Tryd.ntmps19
  go_wp2_with fail
  refine (Pop_any T S L G _).mono ?_
  rintro e w1 ⟨p, rfl, p1, hp1, b1⟩
  have HP := Lib.hid (show w.heap.size ≤ p by simp at hp1; omega)
  have HB1 := Lib.hid (show Below w.heap.size w w1 from (box_below _ _).trans (b1.mono (by simp)))
  have H1 := Lib.hid (show popAt w pc h n p T S L G i l' s' 0 w1 from ⟨l, _, by omega, HM.out.later HB1.out, HF.out, p1, HA.out, only_below _ HB1.out⟩)
  have HNE := Lib.hid (show pc ≠ p ∧ h ≠ p by have := HM.out.lt; have := HP.out; omega)
  clear hp1 p1 b1 c_0 c_1 c_2 c_3
  go_wp2
  go_loopw [6] (fun iv wr => ∃ j : Nat, iv = .int .i64 j ∧ popAt w pc h n p T S L G i l' s' j wr) (fun iv _ => 20 - (intOf iv).toNat)
  case atStart => exact ⟨0, rfl, H1.out⟩
  case round =>
    obtain ⟨j, rfl, lj, s, hj, hm, hf, hp, ha, ho⟩ := hrel
    have HMJ := Lib.hid hm
    have HFJ := Lib.hid hf
    have HPJ := Lib.hid hp
    have HAJ := Lib.hid ha
    have HOJ := Lib.hid ho
    have HNX := Lib.hid (Pop_next hp)
    clear hm hf hp ha ho
    cases hx : popA T L s with
    | none =>
      have HE := Lib.hid (show lj = l' ∧ s = s' by have := HAJ.out; rw [alone_done hx] at this; simpa using this)
      rw [hx] at HNX
      clear hx
      go_wp2_with fail
      refine HNX.out.mono ?_
      rintro e w2 ⟨rfl, b2⟩
      simp only [Option.getD_none, Option.isSome_none]
      have HB2 := Lib.hid b2
      clear b2
      have HP2 := Lib.hid ((HPJ.out.only (only_below (fun _ => False) HB2.out) id).only (only_below (fun _ => False) (box_below _ (.cells #[.int .i64 0, .int .i64 0, .int .u64 0, .int .u64 0, .int .u64 0] 31))) id)
      go_wp2_with fail
      refine (Index_any HP2.out).mono ?_
      rintro e w3 ⟨rfl, rfl⟩
      go_wp2
      go_ret
      exact ⟨by rw [HE.out.2]; rfl, by rw [← HE.out.1]; exact (HMJ.out.later HB2.out).later (box_below _ _), by rw [← HE.out.1]; exact HFJ.out, (HOJ.out.then_below HB2.out).then_below (box_below _ _)⟩
    | some d =>
      have HE := Lib.hid (show j < 19 ∧ alone (popA T L) popT (19 - (j + 1)) (nextD lj d) (popT s (foundD lj d)) = (l', s') by
        by_cases h0 : j = 19
        · exfalso
          have h1 := HAJ.out
          subst h0
          simp only [Nat.sub_self, alone, Prod.mk.injEq] at h1
          rw [h1.2, HD.out] at hx
          cases hx
        · have h1 := HAJ.out
          rw [show 19 - j = (19 - (j + 1)) + 1 by omega, alone_more hx] at h1
          exact ⟨by omega, h1⟩)
      have HDF := Lib.hid (popA_fits HPJ.out.2 hx)
      rw [hx] at HNX
      clear hx
      go_wp2_with fail
      refine HNX.out.mono ?_
      rintro e w2 ⟨rfl, b2⟩
      simp only [Option.getD_some, Option.isSome_some]
      have HM2 := Lib.hid ((HMJ.out.later b2).later (box_below _ (.cells #[.int .i64 d.1, .int .i64 d.2.1, .int .u64 d.2.2.1, .int .u64 d.2.2.2.1, .int .u64 d.2.2.2.2] 31)))
      have HP2 := Lib.hid (HPJ.out.only (only_below (fun _ => False) (b2.trans ((box_below _ (.cells #[.int .i64 d.1, .int .i64 d.2.1, .int .u64 d.2.2.1, .int .u64 d.2.2.2.1, .int .u64 d.2.2.2.2] 31)).mono b2.size))) id)
      have HO2 := Lib.hid ((HOJ.out.then_below b2).then_below (box_below _ (.cells #[.int .i64 d.1, .int .i64 d.2.1, .int .u64 d.2.2.1, .int .u64 d.2.2.2.1, .int .u64 d.2.2.2.2] 31)))
      clear b2
      go_wp2_with fail
      refine (DeedDo.Do_any HM2.out d).mono ?_
      rintro e w3 ⟨rfl, g3, m3⟩
      have HM3 := Lib.hid m3
      have HP3 := Lib.hid (HP2.out.only (R := fun k => k = h) (only_grown g3 fun k e => by cases e; rfl) (fun e => HNE.out.2 e.symm))
      have HO3 := Lib.hid (HO2.out.trans (only_grown g3 fun k e => by cases e; rfl))
      clear g3 m3
      go_wp2_with fail
      refine (Pop_tell HP3.out (fits_found HFJ.out d)).mono ?_
      rintro e w4 ⟨rfl, p4, o4⟩
      have H4 := Lib.hid (show popAt w pc h n p T S L G i l' s' (j + 1) w4 from ⟨_, _, by have := HE.out.1; omega, ⟨HM3.out.1, HM3.out.2.1, HM3.out.2.2.1, o4.cell HM3.out.box HNE.out.1, o4.own HM3.out.own (fun k e => by cases e; exact HNE.out.2)⟩, fits_next HFJ.out HDF.out, p4, HE.out.2, HO3.out.more o4 fun k e => .inr (by subst e; exact HP.out)⟩)
      have hj19 := HE.out.1
      clear p4 o4
      go_wp2
      go_roundw
      case rel => exact ⟨j + 1, by go_num, H4.out⟩
      case measure => simp [intOf]; omega
/-- Amid the deeds. -/
def pushAt (w : World) (pc h n p : Nat) (T S L G i : Int) (l' : List Int) (s' : St) (j : Nat) (wr : World) : Prop :=
  ∃ l s, j ≤ 19 ∧ Mem wr pc h n l ∧ BM.Fits l ∧ Pushes wr p T S L G i s ∧ alone (pushA T L i) pushT (19 - j) l s = (l', s') ∧ Only (fun k => k = h) w wr
set_option maxHeartbeats 1000000 in
theorem push_alone {pc h n : Nat} {l l' : List Int} {s' : St} {w : World} (T S L G i : Int) (hM : Mem w pc h n l) (hF : BM.Fits l) (hA : alone (pushA T L i) pushT 19 l ⟨1, 0, 0⟩ = (l', s')) (hd : pushA T L i s' = none) :
    Calls Tryd.prog 20 #[.pointer (some ⟨pc, 0, none⟩), .agg #[.int .i64 T, .int .i64 S, .int .i64 L, .int .u64 G], .int .i64 i] w fun e w' => e = .returned (.bool true) ∧ Mem w' pc h n l' ∧ BM.Fits l' ∧ Only (fun k => k = h) w w' := by
  have HM := Lib.hid hM
  have HF := Lib.hid hF
  have HA := Lib.hid hA
  have HD := Lib.hid hd
  obtain ⟨c_0, c_1, c_2, c_3⟩ := box4 w (.int .i64 T) (.int .i64 S) (.int .i64 L) (.int .u64 G) 24
  clear hM hF hA hd
  go_enter Tryd.func20, Tryd.ntmps20
  go_wp2_with fail
  refine (Push_any T S L G i _).mono ?_
  rintro e w1 ⟨p, rfl, p1, hp1, b1⟩
  have HP := Lib.hid (show w.heap.size ≤ p by simp at hp1; omega)
  have HB1 := Lib.hid (show Below w.heap.size w w1 from (box_below _ _).trans (b1.mono (by simp)))
  have H1 := Lib.hid (show pushAt w pc h n p T S L G i l' s' 0 w1 from ⟨l, _, by omega, HM.out.later HB1.out, HF.out, p1, HA.out, only_below _ HB1.out⟩)
  have HNE := Lib.hid (show pc ≠ p ∧ h ≠ p by have := HM.out.lt; have := HP.out; omega)
  clear hp1 p1 b1 c_0 c_1 c_2 c_3
  go_wp2
  go_loopw [8] (fun iv wr => ∃ j : Nat, iv = .int .i64 j ∧ pushAt w pc h n p T S L G i l' s' j wr) (fun iv _ => 20 - (intOf iv).toNat)
  case atStart => exact ⟨0, rfl, H1.out⟩
  case round =>
    obtain ⟨j, rfl, lj, s, hj, hm, hf, hp, ha, ho⟩ := hrel
    have HMJ := Lib.hid hm
    have HFJ := Lib.hid hf
    have HPJ := Lib.hid hp
    have HAJ := Lib.hid ha
    have HOJ := Lib.hid ho
    have HNX := Lib.hid (Push_next hp)
    clear hm hf hp ha ho
    cases hx : pushA T L i s with
    | none =>
      have HE := Lib.hid (show lj = l' ∧ s = s' by have := HAJ.out; rw [alone_done hx] at this; simpa using this)
      rw [hx] at HNX
      clear hx
      go_wp2_with fail
      refine HNX.out.mono ?_
      rintro e w2 ⟨rfl, b2⟩
      simp only [Option.getD_none, Option.isSome_none]
      have HB2 := Lib.hid b2
      clear b2
      go_wp2
      go_ret
      exact ⟨rfl, by rw [← HE.out.1]; exact (HMJ.out.later HB2.out).later (box_below _ _), by rw [← HE.out.1]; exact HFJ.out, (HOJ.out.then_below HB2.out).then_below (box_below _ _)⟩
    | some d =>
      have HE := Lib.hid (show j < 19 ∧ alone (pushA T L i) pushT (19 - (j + 1)) (nextD lj d) (pushT s (foundD lj d)) = (l', s') by
        by_cases h0 : j = 19
        · exfalso
          have h1 := HAJ.out
          subst h0
          simp only [Nat.sub_self, alone, Prod.mk.injEq] at h1
          rw [h1.2, HD.out] at hx
          cases hx
        · have h1 := HAJ.out
          rw [show 19 - j = (19 - (j + 1)) + 1 by omega, alone_more hx] at h1
          exact ⟨by omega, h1⟩)
      have HDF := Lib.hid (pushA_fits HPJ.out.2 hx)
      rw [hx] at HNX
      clear hx
      go_wp2_with fail
      refine HNX.out.mono ?_
      rintro e w2 ⟨rfl, b2⟩
      simp only [Option.getD_some, Option.isSome_some]
      have HM2 := Lib.hid ((HMJ.out.later b2).later (box_below _ (.cells #[.int .i64 d.1, .int .i64 d.2.1, .int .u64 d.2.2.1, .int .u64 d.2.2.2.1, .int .u64 d.2.2.2.2] 31)))
      have HP2 := Lib.hid (HPJ.out.only (only_below (fun _ => False) (b2.trans ((box_below _ (.cells #[.int .i64 d.1, .int .i64 d.2.1, .int .u64 d.2.2.1, .int .u64 d.2.2.2.1, .int .u64 d.2.2.2.2] 31)).mono b2.size))) id)
      have HO2 := Lib.hid ((HOJ.out.then_below b2).then_below (box_below _ (.cells #[.int .i64 d.1, .int .i64 d.2.1, .int .u64 d.2.2.1, .int .u64 d.2.2.2.1, .int .u64 d.2.2.2.2] 31)))
      clear b2
      go_wp2_with fail
      refine (DeedDo.Do_any HM2.out d).mono ?_
      rintro e w3 ⟨rfl, g3, m3⟩
      have HM3 := Lib.hid m3
      have HP3 := Lib.hid (HP2.out.only (R := fun k => k = h) (only_grown g3 fun k e => by cases e; rfl) (fun e => HNE.out.2 e.symm))
      have HO3 := Lib.hid (HO2.out.trans (only_grown g3 fun k e => by cases e; rfl))
      clear g3 m3
      go_wp2_with fail
      refine (Push_tell HP3.out (fits_found HFJ.out d)).mono ?_
      rintro e w4 ⟨rfl, p4, o4⟩
      have H4 := Lib.hid (show pushAt w pc h n p T S L G i l' s' (j + 1) w4 from ⟨_, _, by have := HE.out.1; omega, ⟨HM3.out.1, HM3.out.2.1, HM3.out.2.2.1, o4.cell HM3.out.box HNE.out.1, o4.own HM3.out.own (fun k e => by cases e; exact HNE.out.2)⟩, fits_next HFJ.out HDF.out, p4, HE.out.2, HO3.out.more o4 fun k e => .inr (by subst e; exact HP.out)⟩)
      have hj19 := HE.out.1
      clear p4 o4
      go_wp2
      go_roundw
      case rel => exact ⟨j + 1, by go_num, H4.out⟩
      case measure => simp [intOf]; omega
end Go.Proofs.YtmeghmlojnbmbaaDoor.Law12

import Derived.Test.YtickghidajpbnaaGreatDoorSettleOutsAllP16
import Derived.Test.YtickghidajpbnaaGreatDoorSettleOutsAllP2
import Derived.Test.YtickghidajpbnaaGreatDoorSettleOutsAllP20
/- Law 23's own 'alone' (package sundiallaw23): a settler done alone to a memory: it ends where plain arithmetic says. -/
namespace Go.Proofs.YtickghidajpbnaaGreatDoor.SettleAlone
set_option maxRecDepth 20000
open Go.ChangeShapes Go.WideShapes Go.ChangeAt Go.RowKit CM DM PM KM StM MM Runs Lay Plan Ints Go.Proofs.YtickghidajpbnaaGreatDoor.Task
open Go.Proofs.YtickghidajpbnaaGreatDoor.Cells (Mem Does Of_any Words_any Store_any)
open Go.Proofs.YtickghidajpbnaaGreatDoor.Stl (Settles Settle_any Settle_next Settle_tell Retired_any)
set_option linter.unusedVariables false
set_option linter.unusedSimpArgs false

theorem fits_all {L : Int} {k : Nat} {T r : Int} {s : StM.St} (h : StM.Ok L k s) (hr : Word r) {d : D} (hd : settleA T L r s = some d) : DM.Fits d := by
  rcases settleA_fits hr hd with e | e
  · obtain ⟨st, sk, ep, wt⟩ := s
    obtain rfl : st = 2 := e
    rw [settleA_2] at hd
    exact seek_fits (h.look rfl).2 hd
  · exact e
/-- Amid it. -/
def Amid (w : World) (S0 : Nat → Prop) (pc hc n q : Nat) (T N L G r dl sq : Int) (lf : List Int) (sf : StM.St) (j : Nat) (wr : World) : Prop :=
  ∃ m s S, j ≤ 2000 ∧ Mem wr pc hc n m ∧ BM.Fits m ∧ Settles wr q S T N L G r dl sq j s ∧ alone (settleA T L r) (settleT L dl sq) (2000 - j) m s = (lf, sf) ∧ (∀ k, S k → S0 k ∨ (w.heap.size ≤ k ∧ k < wr.heap.size)) ∧ Only (fun k => k = hc ∨ S0 k) w wr
set_option maxHeartbeats 4000000 in
theorem alone_any {T N L G r dl sq : Int} {l lf : List Int} {s0 sf : StM.St} (hal : alone (settleA T L r) (settleT L dl sq) 2000 l s0 = (lf, sf)) (hst : settleA T L r sf = none) (hf : BM.Fits l) {pc hc n q : Nat} {S0 : Nat → Prop} {w : World} (hM : Mem w pc hc n l) (hs : Settles w q S0 T N L G r dl sq 0 s0) (hnp : ¬ S0 pc) (hnh : ¬ S0 hc) :
    Calls Tryz.prog 16 #[.pointer (some ⟨pc, 0, none⟩), .pointer (some ⟨q, 0, none⟩)] w fun e w' => e = .returned (.bool true) ∧ Mem w' pc hc n lf ∧ BM.Fits lf ∧ (∃ k S, Settles w' q S T N L G r dl sq k sf ∧ ∀ k, S k → S0 k ∨ (w.heap.size ≤ k ∧ k < w'.heap.size)) ∧ Only (fun k => k = hc ∨ S0 k) w w' := by
  have HST := Lib.hid hst
  have HLT := Lib.hid hM.lt
  have HN0 := Lib.hid (And.intro hnp hnh)
  have HR := Lib.hid hs.2.1.2
  have H0 := Lib.hid (show Amid w S0 pc hc n q T N L G r dl sq lf sf 0 w from ⟨l, s0, S0, Nat.zero_le _, hM, hf, hs, hal, fun k e => .inl e, Only.refl _ _⟩)
  clear hal hst hf hM hs hnp hnh
  go_enter Tryz.func16, Tryz.ntmps16
  go_wp2
  go_loopw [5] (fun jv wr => ∃ j : Nat, jv = .int .i64 j ∧ Amid w S0 pc hc n q T N L G r dl sq lf sf j wr) (fun jv _ => 4000 - (intOf jv).toNat)
  case atStart => exact ⟨0, rfl, H0.out⟩
  case round =>
    obtain ⟨j, rfl, ⟨m, s, S, hj, hm, hfm, hs, ha, hsb, ho⟩⟩ := hrel
    have HMJ := Lib.hid hm
    have HFM := Lib.hid hfm
    have HS := Lib.hid hs
    have HAJ := Lib.hid ha
    have HSB := Lib.hid hsb
    have HOJ := Lib.hid ho
    have hj4 : (j : Int) < 4000 := by omega
    have HNX := Lib.hid (Settle_next hs)
    clear hm hfm hs ha hsb ho
    cases hx : settleA T L r s with
    | none =>
      have HE := Lib.hid (show m = lf ∧ s = sf by have := HAJ.out; rw [alone_done hx] at this; simpa using this)
      rw [hx] at HNX
      clear hx
      go_wp2_with fail
      refine HNX.out.mono ?_
      rintro e w4 ⟨rfl, b4⟩
      simp only [Option.getD_none, Option.isSome_none]
      have HB4 := Lib.hid (b4.trans ((box_below w4 (.cells #[.int .i64 0, .int .i64 0, .int .u64 0, .int .u64 0, .int .u64 0] 60)).mono b4.size))
      have HEND := Lib.hid (show Mem (w4.alloc (.cells #[.int .i64 0, .int .i64 0, .int .u64 0, .int .u64 0, .int .u64 0] 60)) pc hc n lf ∧ BM.Fits lf ∧ (∃ k S, Settles (w4.alloc (.cells #[.int .i64 0, .int .i64 0, .int .u64 0, .int .u64 0, .int .u64 0] 60)) q S T N L G r dl sq k sf ∧ ∀ k, S k → S0 k ∨ (w.heap.size ≤ k ∧ k < (w4.alloc (.cells #[.int .i64 0, .int .i64 0, .int .u64 0, .int .u64 0, .int .u64 0] 60)).heap.size)) ∧ Only (fun k => k = hc ∨ S0 k) w (w4.alloc (.cells #[.int .i64 0, .int .i64 0, .int .u64 0, .int .u64 0, .int .u64 0] 60)) from
        ⟨HE.out.1 ▸ HMJ.out.later HB4.out, HE.out.1 ▸ HFM.out, ⟨j, S, HE.out.2 ▸ HS.out.later HB4.out, fun k e => (HSB.out k e).imp id fun z => ⟨z.1, Nat.lt_of_lt_of_le z.2 HB4.out.size⟩⟩, HOJ.out.then_below HB4.out⟩)
      clear b4
      go_wp2
      go_ret
      exact ⟨rfl, HEND.out⟩
    | some d =>
      have HE := Lib.hid (show j < 2000 ∧ alone (settleA T L r) (settleT L dl sq) (2000 - (j + 1)) (nextD m d) (settleT L dl sq s (foundD m d)) = (lf, sf) by
        by_cases h0 : j = 2000
        · exfalso
          have h1 := HAJ.out
          subst h0
          simp only [Nat.sub_self, alone, Prod.mk.injEq] at h1
          have h2 := HST.out
          rw [← h1.2, hx] at h2
          cases h2
        · have h1 := HAJ.out
          rw [show 2000 - j = (2000 - (j + 1)) + 1 by omega, alone_more hx] at h1
          exact ⟨by omega, h1⟩)
      have HDF := Lib.hid (fits_all HS.out.1 HR.out hx)
      rw [hx] at HNX
      clear hx
      go_wp2_with fail
      refine HNX.out.mono ?_
      rintro e w4 ⟨rfl, b4⟩
      simp only [Option.getD_some, Option.isSome_some]
      have HB4 := Lib.hid (b4.trans ((box_below w4 (.cells #[.int .i64 d.1, .int .i64 d.2.1, .int .u64 d.2.2.1, .int .u64 d.2.2.2.1, .int .u64 d.2.2.2.2] 60)).mono b4.size))
      have HM4 := Lib.hid (HMJ.out.later HB4.out)
      have HS4 := Lib.hid (HS.out.later HB4.out)
      have HO4 := Lib.hid (HOJ.out.then_below HB4.out)
      have HSB4 := Lib.hid (show ∀ k, S k → S0 k ∨ (w.heap.size ≤ k ∧ k < (w4.alloc (.cells #[.int .i64 d.1, .int .i64 d.2.1, .int .u64 d.2.2.1, .int .u64 d.2.2.2.1, .int .u64 d.2.2.2.2] 60)).heap.size) from fun k e => (HSB.out k e).imp id fun z => ⟨z.1, Nat.lt_of_lt_of_le z.2 HB4.out.size⟩)
      have HNS := Lib.hid (show ¬ S pc ∧ ¬ S hc from ⟨fun e => (HSB.out _ e).elim HN0.out.1 fun z => by have := HLT.out; omega, fun e => (HSB.out _ e).elim HN0.out.2 fun z => by have := HLT.out; omega⟩)
      clear b4
      go_wp2_with fail
      refine (DeedDo.Do_any HM4.out d).mono ?_
      rintro e w5 ⟨rfl, g5, m5⟩
      have HM5 := Lib.hid m5
      have HO5 := Lib.hid (only_grown (R := fun k => k = hc) g5 fun k e => by cases e; rfl)
      have HS5 := Lib.hid (HS4.out.only HO5.out (fun k z e => HNS.out.2 (e ▸ z)))
      have HO45 := Lib.hid (HO4.out.trans (HO5.out.wide (R' := fun k => k = hc ∨ S0 k) fun k e => .inl (.inl e)))
      clear g5 m5
      go_wp2_with fail
      refine (Settle_tell HS5.out (by omega) (fits_found HFM.out d)).mono ?_
      rintro e w6 ⟨rfl, S6, s6, o6, k6⟩
      have H6 := Lib.hid (show Amid w S0 pc hc n q T N L G r dl sq lf sf (j + 1) w6 from ⟨_, _, S6, by have := HE.out.1; omega, ⟨HM5.out.1, HM5.out.2.1, HM5.out.2.2.1, o6.cell HM5.out.box HNS.out.1, o6.own HM5.out.own (fun k e => by cases e; exact HNS.out.2)⟩, fits_next HFM.out HDF.out, s6, HE.out.2,
        fun k z => (k6 k z).elim (fun z => (HSB4.out k z).imp id fun z => ⟨z.1, Nat.lt_of_lt_of_le z.2 (Nat.le_trans HO5.out.size o6.size)⟩) (fun z => .inr ⟨Nat.le_trans HO45.out.size z.1, z.2⟩), HO45.out.more o6 (fun k z => (HSB4.out k z).imp (fun z => .inr z) fun z => z.1)⟩)
      have hj2 := HE.out.1
      clear s6 o6 k6
      go_wp2
      go_roundw
      case rel => exact ⟨j + 1, by go_num, H6.out⟩
      case measure => simp [intOf]; omega
end Go.Proofs.YtickghidajpbnaaGreatDoor.SettleAlone

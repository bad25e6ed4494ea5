import Derived.Test.YtlagghghbpbcbaaGreatDoorStartComesAllP39
import Derived.Test.YtlagghghbpbcbaaGreatDoorStartComesAllP4
import Derived.Test.YtlagghghbpbcbaaGreatDoorStartComesAllP11
import Derived.Test.YtlagghghbpbcbaaGreatDoorStartComesAllP13
/- Law 31's own 'alone' (package sundiallaw31): a starter done alone to a memory: it ends where plain arithmetic says. -/
namespace Go.Proofs.YtlagghghbpbcbaaGreatDoor.StartAlone
set_option maxRecDepth 20000
open Go.ChangeShapes Go.WideShapes Go.ChangeAt Go.RowKit CM DM PM KM MM Runs Lay Plan Ints Go.Proofs.YtlagghghbpbcbaaGreatDoor.Flows
open Go.Proofs.YtlagghghbpbcbaaGreatDoor.Cells (Mem Does Of_any Words_any Store_any)
open Go.Proofs.YtlagghghbpbcbaaGreatDoor.Srt (Starts Start_next Start_tell lbT)
open LM (Ls lenL addL R2)
set_option linter.unusedVariables false
set_option linter.unusedSimpArgs false

/-- The words of a deed are such as there can be. -/
def FitsW (d : D) : Prop := (0 ≤ d.2.2.1 ∧ d.2.2.1 < 18446744073709551616) ∧ (0 ≤ d.2.2.2.1 ∧ d.2.2.2.1 < 18446744073709551616)
theorem FitsW.of {d : D} (h : DM.Fits d) : FitsW d := ⟨h.2.1, h.2.2.1⟩
theorem next_fitsW {l : List Int} {d : D} (h : BM.Fits l) (hd : FitsW d) : BM.Fits (nextD l d) := by
  obtain ⟨kd, i, a, b, y⟩ := d
  obtain ⟨h2, h3⟩ := hd
  simp only at h2 h3
  by_cases e1 : kd = 1
  · subst e1; rw [nextD_1]; exact h
  by_cases e2 : kd = 2
  · subst e2; rw [nextD_2]; exact BM.fits_set h _ h2
  by_cases e3 : kd = 3
  · subst e3; rw [nextD_3]; unfold swapI; split
    · exact BM.fits_set h _ h3
    · exact h
  by_cases e4 : kd = 4
  · subst e4; rw [nextD_4]; unfold addI; exact BM.fits_set h _ (by omega)
  rw [nextD_no (by simp only; omega)]
  exact h
theorem pin_fitsW {t : PiM.St} (h : PiM.Ok t) {d : D} (hd : PiM.pinA t = some d) : FitsW d := by
  obtain ⟨-, h2⟩ := h
  unfold PiM.pinA at hd
  unfold FitsW
  split at hd
  · cases hd; simp
  · split at hd
    · cases hd; simp only; omega
    · cases hd
theorem pop_fitsW {T L : Int} {t : PoM.St} (h : PoM.Ok t) {d : D} (hd : PoM.popA T L t = some d) : FitsW d := by
  obtain ⟨-, h2, h3⟩ := h
  have h4 := PoM.turn_lo t.was t.low
  unfold PoM.popA at hd
  unfold FitsW
  split at hd
  · cases hd; simp
  · split at hd
    · cases hd; simp
    · split at hd
      · cases hd; simp only; omega
      · cases hd
theorem wrap_word (x : Int) : 0 ≤ IntKind.u64.wrap x ∧ IntKind.u64.wrap x < 18446744073709551616 := by
  have h : IntKind.u64.wrap x = x % 18446744073709551616 := rfl
  rw [h]
  omega
theorem ins_fitsW {T L i dl tall : Int} {k : Nat} {t : InM.St} (h : InM.Ok T L tall k t) {d : D} (hd : InM.insA T L i (IntKind.u64.wrap dl) (IntKind.u64.wrap tall) t = some d) : FitsW d := by
  cases t with
  | mint m => exact FitsW.of (MiM.minA_fits h.1 (wrap_word dl) (wrap_word tall) hd)
  | link m s =>
    rcases LiM.link_fits h.2.1 h.1.1.2.2.1 hd with e | e
    · obtain ⟨st, lv, sk, ps, ss⟩ := s
      obtain rfl : st = 1 := e
      rw [show InM.insA T L i (IntKind.u64.wrap dl) (IntKind.u64.wrap tall) (.link m ⟨1, lv, sk, ps, ss⟩) = LiM.linkA T L m.r ⟨1, lv, sk, ps, ss⟩ from rfl, LiM.linkA_1] at hd
      exact FitsW.of (seek_fits h.2.1.ok hd)
    · exact FitsW.of e
  | live m s =>
    cases hd
    exact ⟨⟨SM.stI_lo _ _, SM.stI_hi _ _⟩, by simp⟩
  | lift m s =>
    rcases LfM.lift_fits h.2.1 h.1.1.2.2.1 hd with ⟨q, e1, e2, e3⟩ | e
    · exact FitsW.of (seek_fits e3 e2)
    · exact FitsW.of e
  | settle m s =>
    rcases StM.settleA_fits h.1.1.2.2.1 hd with e | e
    · obtain ⟨st, sk, ep, wt⟩ := s
      obtain rfl : st = 2 := e
      rw [show InM.insA T L i (IntKind.u64.wrap dl) (IntKind.u64.wrap tall) (.settle m ⟨2, sk, ep, wt⟩) = StM.settleA T L m.r ⟨2, sk, ep, wt⟩ from rfl, StM.settleA_2] at hd
      exact FitsW.of (seek_fits (h.2.1.look rfl).2 hd)
    · exact FitsW.of e
  | wake m s => exact FitsW.of (WkM.wakeA_fits hd)
theorem start_fitsW {w : World} {p k : Nat} {S : Nat → Prop} {T N L G th kd dl dr hh cn : Int} {l : Nat} {lb : Ls} {s : SrM.St} (h : Starts w p S T N L G th kd dl dr hh cn l k lb s) {d : D} (hd : (SrM.stA T L (IntKind.u64.wrap dl) (IntKind.u64.wrap (DM.heightI dr L))) s = some d) : FitsW d := by
  obtain ⟨-, -, h⟩ := h
  obtain ⟨pl, n, acts, err, ok, hv⟩ := s
  cases pl with
  | pin t =>
    obtain ⟨_, _, _, _, _, _, -, -, -, hI⟩ := Srt.ba_cell h.2
    exact pin_fitsW hI.1.2 hd
  | pop t =>
    obtain ⟨_, _, _, _, _, _, -, -, -, hI⟩ := Srt.ba_cell h.2
    exact pop_fitsW hI.1.2 hd
  | ins i t =>
    obtain ⟨_, _, _, _, _, _, -, -, -, hI⟩ := Srt.ba_cell h.2
    exact ins_fitsW (Srt.ins_up hI) hd
  | leave t =>
    obtain ⟨_, _, _, _, _, _, -, -, -, hI⟩ := Srt.ba_cell h.2
    exact pin_fitsW hI.1.2 hd
  | idle => cases hd
/-- Amid it: K steps in all. -/
def Amid (w : World) (S0 : Nat → Prop) (pc hc n q : Nat) (T N L G th kd dl dr hh cn : Int) (l : Nat) (K : Nat) (lf : List Int) (sf : SrM.St) (j : Nat) (wr : World) : Prop :=
  ∃ m s S lb, j ≤ K ∧ Mem wr pc hc n m ∧ BM.Fits m ∧ Starts wr q S T N L G th kd dl dr hh cn l j lb s ∧ steps (SrM.stA T L (IntKind.u64.wrap dl) (IntKind.u64.wrap (DM.heightI dr L))) (SrM.stT T L th dl (IntKind.u64.wrap dl) (IntKind.u64.wrap (DM.heightI dr L)) (DM.heightI dr L)) (K - j) m s = some (lf, sf) ∧ (∀ k, S k → S0 k ∨ (w.heap.size ≤ k ∧ k < wr.heap.size)) ∧ Only (fun k => k = hc ∨ S0 k) w wr
section
variable {w wr : World} {S0 : Nat → Prop} {pc hc n q K j : Nat} {T N L G th kd dl dr hh cn : Int} {l : Nat} {lf : List Int} {sf : SrM.St}
/-- One deed more. -/
theorem Amid.more {d : D} {m : List Int} {s : SrM.St} {S S6 : Nat → Prop} {lb6 : Ls} {w4 w5 w6 : World} (hlt : pc < w.heap.size ∧ hc < w.heap.size) (hn : ¬ S0 pc ∧ ¬ S0 hc) (hj : j + 1 ≤ K) (hb4 : Below wr.heap.size wr w4) (ho : Only (fun k => k = hc ∨ S0 k) w wr) (hS : ∀ k, S k → S0 k ∨ (w.heap.size ≤ k ∧ k < wr.heap.size))
    (hd : FitsW d) (hf : BM.Fits m) (ha : steps (SrM.stA T L (IntKind.u64.wrap dl) (IntKind.u64.wrap (DM.heightI dr L))) (SrM.stT T L th dl (IntKind.u64.wrap dl) (IntKind.u64.wrap (DM.heightI dr L)) (DM.heightI dr L)) (K - (j + 1)) (nextD m d) ((SrM.stT T L th dl (IntKind.u64.wrap dl) (IntKind.u64.wrap (DM.heightI dr L)) (DM.heightI dr L)) s (foundD m d)) = some (lf, sf)) (h5 : Only (fun k => k = hc) w4 w5) (m5 : Mem w5 pc hc n (nextD m d)) (s6 : Starts w6 q S6 T N L G th kd dl dr hh cn l (j + 1) lb6 ((SrM.stT T L th dl (IntKind.u64.wrap dl) (IntKind.u64.wrap (DM.heightI dr L)) (DM.heightI dr L)) s (foundD m d))) (g6 : Grown w5 w6 S S6) : Amid w S0 pc hc n q T N L G th kd dl dr hh cn l K lf sf (j + 1) w6 := by
  have z1 := hb4.size
  have z2 := h5.size
  have z3 := g6.1.size
  have z0 := ho.size
  have hns : ¬ S pc ∧ ¬ S hc := ⟨fun e => (hS _ e).elim hn.1 fun z => by omega, fun e => (hS _ e).elim hn.2 fun z => by omega⟩
  refine ⟨_, _, S6, _, hj, ⟨m5.1, m5.2.1, m5.2.2.1, g6.1.cell m5.box hns.1, g6.1.own m5.own (fun k e => by cases e; exact hns.2)⟩, next_fitsW hf hd, s6, ha, fun k z => ?_, ?_⟩
  · rcases g6.2 k z with z | z
    · exact (hS k z).imp id fun z => ⟨z.1, by omega⟩
    · exact .inr ⟨by omega, z.2⟩
  · exact ((ho.then_below hb4).trans (h5.wide fun k e => .inl (.inl e))).more g6.1 fun k z => (hS k z).imp (fun z => .inr z) fun z => z.1
end
set_option maxHeartbeats 4000000 in
theorem alone_any {T N L G th kd dl dr hh cn : Int} {l K : Nat} {m0 lf : List Int} {s0 sf : SrM.St} (hK : K ≤ 4000) (hal : steps (SrM.stA T L (IntKind.u64.wrap dl) (IntKind.u64.wrap (DM.heightI dr L))) (SrM.stT T L th dl (IntKind.u64.wrap dl) (IntKind.u64.wrap (DM.heightI dr L)) (DM.heightI dr L)) K m0 s0 = some (lf, sf)) (hst : (SrM.stA T L (IntKind.u64.wrap dl) (IntKind.u64.wrap (DM.heightI dr L))) sf = none) (hf : BM.Fits m0) {pc hc n q : Nat} {S0 : Nat → Prop} {lb : Ls} {w : World} (hM : Mem w pc hc n m0) (hs : Starts w q S0 T N L G th kd dl dr hh cn l 0 lb s0) (hnp : ¬ S0 pc) (hnh : ¬ S0 hc) :
    Calls Tryz.prog 12 #[.pointer (some ⟨pc, 0, none⟩), .pointer (some ⟨q, 0, none⟩)] w fun e w' => e = .returned (.bool true) ∧ Mem w' pc hc n lf ∧ BM.Fits lf ∧ (∃ k S lb, Starts w' q S T N L G th kd dl dr hh cn l k lb sf ∧ ∀ k, S k → S0 k ∨ (w.heap.size ≤ k ∧ k < w'.heap.size)) ∧ Only (fun k => k = hc ∨ S0 k) w w' := by
  have HST := Lib.hid hst
  have HLT := Lib.hid hM.lt
  have HN0 := Lib.hid (And.intro hnp hnh)
  have HKK := Lib.hid hK
  have H0 := Lib.hid (show Amid w S0 pc hc n q T N L G th kd dl dr hh cn l K lf sf 0 w from ⟨m0, s0, S0, lb, Nat.zero_le _, hM, hf, hs, hal, fun k e => .inl e, Only.refl _ _⟩)
  clear hal hst hf hM hs hnp hnh
  go_enter Tryz.func12, Tryz.ntmps12
  go_wp2
  go_loopw [5] (fun jv wr => ∃ j : Nat, jv = .int .i64 j ∧ Amid w S0 pc hc n q T N L G th kd dl dr hh cn l K lf sf j wr) (fun jv _ => 10000 - (intOf jv).toNat)
  case atStart => exact ⟨0, rfl, H0.out⟩
  case round =>
    obtain ⟨j, rfl, ⟨m, s, S, lb, hj, hm, hfm, hs, ha, hsb, ho⟩⟩ := hrel
    have HMJ := Lib.hid hm
    have HFM := Lib.hid hfm
    have HS := Lib.hid hs
    have HAJ := Lib.hid ha
    have HSB := Lib.hid hsb
    have HOJ := Lib.hid ho
    have hj4 : (j : Int) < 10000 := by omega
    have HNX := Lib.hid (Start_next hs)
    clear hm hfm hs ha hsb ho
    cases hx : (SrM.stA T L (IntKind.u64.wrap dl) (IntKind.u64.wrap (DM.heightI dr L))) s with
    | none =>
      have HE := Lib.hid (show m = lf ∧ s = sf by
        have h1 := HAJ.out
        cases hk : K - j with
        | zero => rw [hk] at h1; simpa [steps] using h1
        | succ k => rw [hk] at h1; obtain ⟨d, hd, -⟩ := steps_amid h1; rw [hx] at hd; cases hd)
      rw [hx] at HNX
      unfold ansV ansD at HNX
      simp only [Option.getD_none, Option.isSome_none] at HNX
      clear hx
      go_wp2_with fail
      refine HNX.out.mono ?_
      rintro e w4 ⟨rfl, b4⟩
      have HB4 := Lib.hid (b4.trans ((box_below w4 (.cells #[.int .i64 0, .int .i64 0, .int .u64 0, .int .u64 0, .int .u64 0] 63)).mono b4.size))
      have HEND := Lib.hid (show Mem (w4.alloc (.cells #[.int .i64 0, .int .i64 0, .int .u64 0, .int .u64 0, .int .u64 0] 63)) pc hc n lf ∧ BM.Fits lf ∧ (∃ k S lb, Starts (w4.alloc (.cells #[.int .i64 0, .int .i64 0, .int .u64 0, .int .u64 0, .int .u64 0] 63)) q S T N L G th kd dl dr hh cn l k lb sf ∧ ∀ k, S k → S0 k ∨ (w.heap.size ≤ k ∧ k < (w4.alloc (.cells #[.int .i64 0, .int .i64 0, .int .u64 0, .int .u64 0, .int .u64 0] 63)).heap.size)) ∧ Only (fun k => k = hc ∨ S0 k) w (w4.alloc (.cells #[.int .i64 0, .int .i64 0, .int .u64 0, .int .u64 0, .int .u64 0] 63)) from
        ⟨HE.out.1 ▸ HMJ.out.later HB4.out, HE.out.1 ▸ HFM.out, ⟨j, S, lb, HE.out.2 ▸ HS.out.later HB4.out, fun k e => (HSB.out k e).imp id fun z => ⟨z.1, Nat.lt_of_lt_of_le z.2 HB4.out.size⟩⟩, HOJ.out.then_below HB4.out⟩)
      clear b4
      go_wp2
      go_ret
      exact ⟨rfl, HEND.out⟩
    | some d =>
      have HE := Lib.hid (show j + 1 ≤ K ∧ steps (SrM.stA T L (IntKind.u64.wrap dl) (IntKind.u64.wrap (DM.heightI dr L))) (SrM.stT T L th dl (IntKind.u64.wrap dl) (IntKind.u64.wrap (DM.heightI dr L)) (DM.heightI dr L)) (K - (j + 1)) (nextD m d) ((SrM.stT T L th dl (IntKind.u64.wrap dl) (IntKind.u64.wrap (DM.heightI dr L)) (DM.heightI dr L)) s (foundD m d)) = some (lf, sf) by
        by_cases h0 : j = K
        · exfalso
          have h1 := HAJ.out
          rw [h0, Nat.sub_self] at h1
          simp only [steps, Option.some.injEq, Prod.mk.injEq] at h1
          have h2 := HST.out
          rw [← h1.2, hx] at h2
          cases h2
        · have h1 := HAJ.out
          rw [show K - j = (K - (j + 1)) + 1 by omega, steps_more hx] at h1
          exact ⟨by omega, h1⟩)
      have HDF := Lib.hid (start_fitsW HS.out hx)
      rw [hx] at HNX
      unfold ansV ansD at HNX
      simp only [Option.getD_some, Option.isSome_some] at HNX
      clear hx
      go_wp2_with fail
      refine HNX.out.mono ?_
      rintro e w4 ⟨rfl, b4⟩
      have HB4 := Lib.hid (b4.trans ((box_below w4 (.cells #[.int .i64 d.1, .int .i64 d.2.1, .int .u64 d.2.2.1, .int .u64 d.2.2.2.1, .int .u64 d.2.2.2.2] 63)).mono b4.size))
      have HM4 := Lib.hid (HMJ.out.later HB4.out)
      have HS4 := Lib.hid (HS.out.later HB4.out)
      clear b4
      go_wp2_with fail
      refine (DeedDo.Do_any HM4.out d).mono ?_
      rintro e w5 ⟨rfl, g5, m5⟩
      have HM5 := Lib.hid m5
      have HO5 := Lib.hid (only_grown (R := fun k => k = hc) g5 fun k e => by cases e; rfl)
      have HNS := Lib.hid (show ¬ S hc from fun e => (HSB.out _ e).elim HN0.out.2 fun z => by have := HLT.out; omega)
      have HS5 := Lib.hid (HS4.out.only HO5.out (fun k z e => HNS.out (e ▸ z)))
      clear g5 m5
      go_wp2_with fail
      refine (Start_tell HS5.out (by omega) (fits_found HFM.out d)).mono ?_
      rintro e w6 ⟨rfl, S6, s6, g6⟩
      have H6 := Lib.hid (Amid.more HLT.out HN0.out HE.out.1 HB4.out HOJ.out HSB.out HDF.out HFM.out HE.out.2 HO5.out HM5.out s6 g6)
      have hj2 := HE.out.1
      clear s6 g6
      go_wp2
      go_roundw
      case rel => exact ⟨j + 1, by go_num, H6.out⟩
      case measure => simp [intOf]; omega
end Go.Proofs.YtlagghghbpbcbaaGreatDoor.StartAlone

/- Law 31's example. -/
namespace Go.Proofs.YtlagghghbpbcbaaGreatDoor.Law31
set_option maxRecDepth 20000
open Go.ChangeShapes Go.WideShapes Go.ChangeAt Go.RowKit CM DM PM KM BM MM Runs Lay Plan Ints Go.Proofs.YtlagghghbpbcbaaGreatDoor.Flows
open Go.Proofs.YtlagghghbpbcbaaGreatDoor.Cells (Mem Does)
open Go.Proofs.YtlagghghbpbcbaaGreatDoor.Srt (Starts Start_next Start_tell Start_any Answer_any ansS lbT)
open Go.Proofs.YtlagghghbpbcbaaGreatDoor.StartAlone (Amid start_fitsW)
open LM (Ls lenL addL R2 noL)
set_option linter.unusedVariables false
set_option linter.unusedSimpArgs false
theorem wf_u64 {a : Int} (h : (Lit.int .u64 a).wf = true) : 0 ≤ a ∧ a < 18446744073709551616 := by
  simp [Lit.wf, IntKind.min, IntKind.max, IntKind.signed, IntKind.bits] at h; omega
theorem wf_i64 {a : Int} (h : (Lit.int .i64 a).wf = true) : -9223372036854775808 ≤ a ∧ a ≤ 9223372036854775807 := by
  simp [Lit.wf, IntKind.min, IntKind.max, IntKind.signed, IntKind.bits] at h; omega
/-- The example's words, and what its start comes to. -/
def exL : List Int := layL (wordsN 1 1 1) ((1 : Nat) : Int) ((1 : Nat) : Int) ((1 : Nat) : Int) (SM.stI 0 0) 1
def exE : Option (List Int × SrM.St) := steps (SrM.stA 1 1 (IntKind.u64.wrap 5) (IntKind.u64.wrap 1)) (SrM.stT 1 1 0 5 (IntKind.u64.wrap 5) (IntKind.u64.wrap 1) 1) 19 exL (SrM.new 1 0)
theorem ex_ok : (exE.map fun x => ((SrM.stA 1 1 (IntKind.u64.wrap 5) (IntKind.u64.wrap 1) x.2).isNone, x.2.err, x.2.ok, x.2.hd)) = some (true, 0, true, 1) := by decide +kernel
theorem ex_tall : DM.heightI 0 1 = 1 := by
  unfold DM.heightI
  rw [if_neg (by decide)]
  exact if_pos (by omega)
theorem ex_run : ∃ lf sf, steps (SrM.stA 1 1 (IntKind.u64.wrap 5) (IntKind.u64.wrap (DM.heightI 0 1))) (SrM.stT 1 1 0 5 (IntKind.u64.wrap 5) (IntKind.u64.wrap (DM.heightI 0 1)) (DM.heightI 0 1)) 19 exL (SrM.new 1 0) = some (lf, sf) ∧ (SrM.stA 1 1 (IntKind.u64.wrap 5) (IntKind.u64.wrap (DM.heightI 0 1))) sf = none ∧ sf.err = 0 ∧ sf.ok = true ∧ sf.hd = 1 := by
  rw [ex_tall]
  have h := ex_ok
  cases he : exE with
  | none => rw [he] at h; cases h
  | some x =>
    obtain ⟨lf, sf⟩ := x
    rw [he] at h
    simp only [Option.map_some, Option.some.injEq, Prod.mk.injEq] at h
    exact ⟨lf, sf, he, by simpa using h.1, h.2.1, h.2.2.1, h.2.2.2⟩
theorem ex_fits : BM.Fits exL := fits_lay _ _ _ ⟨SM.stI_lo _ _, SM.stI_hi _ _⟩ (by decide) _
theorem ba_b {w W W' : World} (hb : Below w.heap.size w W) (h : Below W.heap.size W W') : Below w.heap.size w W' := hb.trans (h.mono hb.size)
set_option maxHeartbeats 4000000 in
theorem awake_any (w : World) : Calls Tryz.prog 4 #[] w fun e w' => e = .returned (.bool true) ∧ Below w.heap.size w w' := by
  have HMK := Lib.hid (fun W : World => Blank.Make_yes (T := 1) (S := 1) (L := 1) (G := 0) (by decide) (by decide) W)
  have HLN := Lib.hid (fun W : World => Limbo.New_any W)
  have HST := Lib.hid (fun (W : World) (l : Nat) (SL : Nat → Prop) (hl : Limbo.Lim W l SL noL) => Start_any (T := 1) (N := 1) (L := 1) (G := 0) (th := 0) (kd := 1) (dl := 5) (dr := 0) (hh := 0) (cn := 0) (by decide) (by decide) (by decide) (by decide) hl (by decide))
  have HK := Lib.hid (show ∀ W, Below (w.alloc (.cells #[.int .i64 1, .int .i64 1, .int .i64 1, .int .u64 0] 24)).heap.size (w.alloc (.cells #[.int .i64 1, .int .i64 1, .int .i64 1, .int .u64 0] 24)) W → W.cell? ⟨w.heap.size, 0, none⟩ = some (.int .i64 1) ∧ W.cell? ⟨w.heap.size, 1, none⟩ = some (.int .i64 1) ∧ W.cell? ⟨w.heap.size, 2, none⟩ = some (.int .i64 1) ∧ W.cell? ⟨w.heap.size, 3, none⟩ = some (.int .u64 0) from fun W hb => by
    have g := (only_below (fun _ => False) hb).heap (new_heap w (.cells #[.int .i64 1, .int .i64 1, .int .i64 1, .int .u64 0] 24)) id
    exact ⟨(cell_heap g 0).1, (cell_heap g 1).1, (cell_heap g 2).1, (cell_heap g 3).1⟩)
  have HK4 := Lib.hid (show ∀ w1 w3 w4 SL, Below (w.alloc (.cells #[.int .i64 1, .int .i64 1, .int .i64 1, .int .u64 0] 24)).heap.size (w.alloc (.cells #[.int .i64 1, .int .i64 1, .int .i64 1, .int .u64 0] 24)) w1 → Below (w.alloc (.cells #[.int .i64 1, .int .i64 1, .int .i64 1, .int .u64 0] 24)).heap.size (w.alloc (.cells #[.int .i64 1, .int .i64 1, .int .i64 1, .int .u64 0] 24)) w3 → (∀ k, SL k → w1.heap.size ≤ k) → Only SL w3 w4 → (fun W => W.cell? ⟨w.heap.size, 0, none⟩ = some (.int .i64 1) ∧ W.cell? ⟨w.heap.size, 1, none⟩ = some (.int .i64 1) ∧ W.cell? ⟨w.heap.size, 2, none⟩ = some (.int .i64 1) ∧ W.cell? ⟨w.heap.size, 3, none⟩ = some (.int .u64 0)) w4 from fun w1 w3 w4 SL h1 hb hS ho => by
    have g := ho.heap ((only_below (fun _ => False) hb).heap (new_heap w (.cells #[.int .i64 1, .int .i64 1, .int .i64 1, .int .u64 0] 24)) id) (fun e => by have h5 := hS _ e; have h6 := h1.size; simp at h6; omega)
    exact ⟨(cell_heap g 0).1, (cell_heap g 1).1, (cell_heap g 2).1, (cell_heap g 3).1⟩)
  obtain ⟨c_0, c_1, c_2, c_3⟩ := HK.out _ (Below.refl _ _)
  go_enter Tryz.func4, Tryz.ntmps4
  go_wp2_with fail
  refine (HMK.out _).mono ?_
  rintro e1 w1 ⟨pc, h, rfl, m1, p1, h1, b1⟩
  have HM1 := Lib.hid (And.intro m1 (And.intro p1 (And.intro h1 b1)))
  clear m1 p1 h1 b1 c_0 c_1 c_2 c_3
  have HD1 := Lib.hid (HK.out _ HM1.out.2.2.2.drew)
  go_upto_region 3 with fail
  go_region_held3 (fun W => W.cell? ⟨w.heap.size, 0, none⟩ = some (.int .i64 1) ∧ W.cell? ⟨w.heap.size, 1, none⟩ = some (.int .i64 1) ∧ W.cell? ⟨w.heap.size, 2, none⟩ = some (.int .i64 1) ∧ W.cell? ⟨w.heap.size, 3, none⟩ = some (.int .u64 0))
    ((first | (with_reducible exact HD1.out) | (with_reducible assumption) | (with_reducible exact HK.out _ HB3.out.2.2) | (with_reducible exact HB4.out.1)))
    (first
      | (go_at_call 11; refine (HLN.out _).mono ?_; rintro e w3 ⟨ql, SL, rfl, g1, g2, g3⟩; have HB3 := Lib.hid (And.intro g1 (And.intro (show ∀ k, SL k → w1.heap.size ≤ k from fun k e => g2 k e) (ba_b HM1.out.2.2.2.drew g3))); have HZ3 := Lib.hid (show w1.heap.size ≤ w3.heap.size from g3.size); have HB13 := Lib.hid (show Below w1.heap.size w1 w3 from (Below.refl _ _).drew.trans g3); clear g1 g2 g3)
      | (go_at_call 10; refine (HST.out _ _ _ HB3.out.1).mono ?_; rintro e w4 ⟨p, S, rfl, g1, g2, g3⟩; have HB4 := Lib.hid (And.intro (HK4.out _ _ _ _ HM1.out.2.2.2 HB3.out.2.2 HB3.out.2.1 g2.1) (And.intro g1 g2)); clear g1 g2 g3))
  have hz3 := HB3.out.2.2.size
  have hz4 := HB4.out.2.2.1.size
  have hz1 := HM1.out.2.2.2.size
  simp only [World.size_alloc] at hz3 hz1
  have h13 : w1.heap.size ≤ w3.heap.size := HZ3.out
  have HMI := Lib.hid (show Mem w4 pc h (wordsN 1 1 1) exL ∧ Starts w4 p S 1 1 1 0 0 1 5 0 0 0 ql 0 noL (SrM.new 1 0) ∧ (¬ S pc ∧ ¬ S h) ∧ (w.heap.size ≤ h ∧ ∀ k, S k → w.heap.size ≤ k) ∧ Below w.heap.size w w4 from by
    obtain ⟨k1, k2⟩ := HB4.out.2
    have hl := HM1.out.1.lt
    have hp := HM1.out.2.1
    have hh := HM1.out.2.2.1
    simp only [World.size_alloc] at hp hh
    have hS : ∀ k, S k → w1.heap.size ≤ k := fun k e => (k2.2 k e).elim (HB3.out.2.1 k) fun e => by omega
    have hm3 := HM1.out.1.later (HB13.out)
    exact ⟨⟨hm3.1, hm3.2.1, hm3.2.2.1, k2.1.cell hm3.box (show ¬ SL pc from fun e => by have := HB3.out.2.1 pc e; omega), k2.1.own hm3.own (fun k e => by cases e; exact show ¬ SL h from fun e => by have := HB3.out.2.1 h e; omega)⟩, k1, ⟨fun e => by have := hS _ e; omega, fun e => by have := hS _ e; omega⟩, ⟨by omega, fun k e => by have := hS k e; omega⟩,
      ((box_below w _).trans (HB3.out.2.2.mono (by simp))).trans (k2.1.below (Nat.le_of_lt (by omega)) fun k e => by have := HB3.out.2.1 k e; omega)⟩)
  obtain ⟨lf, sf, hrun, hend, hE0, hE1, hE2⟩ := ex_run
  have HEN := Lib.hid (And.intro hend (And.intro hE0 (And.intro hE1 hE2)))
  have HLT := Lib.hid (show pc < w4.heap.size ∧ h < w4.heap.size from HMI.out.1.lt)
  have H0 := Lib.hid (show Amid w4 S pc h (wordsN 1 1 1) p 1 1 1 0 0 1 5 0 0 0 ql 19 lf sf 0 w4 from ⟨exL, _, S, noL, Nat.zero_le _, HMI.out.1, ex_fits, HMI.out.2.1, hrun, fun k e => .inl e, Only.refl _ _⟩)
  clear hrun hend hE0 hE1 hE2 hz1 hz3 hz4 h13 HMK HLN HST HK HK4 HD1 HM1 HB3 HB4 HZ3 HB13
  generalize wordsN 1 1 1 = n at HMI H0
  go_wp2
  go_loopw [5] (fun jv wr => ∃ j : Nat, jv = .int .i64 j ∧ Amid w4 S pc h n p 1 1 1 0 0 1 5 0 0 0 ql 19 lf sf j wr) (fun jv _ => 99 - (intOf jv).toNat)
  case atStart => exact ⟨0, rfl, H0.out⟩
  case round =>
    obtain ⟨j, rfl, ⟨m, s, S5, lb, hj, hm, hfm, hs, ha, hsb, ho⟩⟩ := hrel
    have HMJ := Lib.hid hm
    have HFM := Lib.hid hfm
    have HS := Lib.hid hs
    have HAJ := Lib.hid ha
    have HSB := Lib.hid hsb
    have HOJ := Lib.hid ho
    have hj4 : (j : Int) < 99 := by omega
    have HNX := Lib.hid (Start_next hs)
    clear hm hfm hs ha hsb ho
    cases hx : (SrM.stA 1 1 (IntKind.u64.wrap 5) (IntKind.u64.wrap (DM.heightI 0 1))) s with
    | none =>
      have HE := Lib.hid (show j = 19 ∧ s = sf by
        have h1 := HAJ.out
        cases hk : 19 - j with
        | zero => rw [hk] at h1; simp only [steps, Option.some.injEq, Prod.mk.injEq] at h1; exact ⟨by omega, h1.2⟩
        | succ k => rw [hk] at h1; obtain ⟨d, hd, -⟩ := steps_amid h1; rw [hx] at hd; cases hd)
      rw [hx] at HNX
      unfold ansV ansD at HNX
      simp only [Option.getD_none, Option.isSome_none] at HNX
      clear hx
      obtain ⟨rfl, rfl⟩ := HE.out
      go_wp2_with fail
      refine HNX.out.mono ?_
      rintro e w5 ⟨rfl, b5⟩
      have HB5 := Lib.hid (b5.trans ((box_below w5 (.cells #[.int .i64 0, .int .i64 0, .int .u64 0, .int .u64 0, .int .u64 0] 63)).mono b5.size))
      have HAN := Lib.hid (Answer_any (HS.out.later HB5.out))
      rw [show ansS 1 1 (IntKind.u64.wrap 5) (IntKind.u64.wrap (DM.heightI 0 1)) s = .agg #[.int .i64 0, .bool true, .int .u64 1, .slice none 0 0] from by unfold ansS; rw [HEN.out.1, HEN.out.2.1, HEN.out.2.2.1, HEN.out.2.2.2]; rfl] at HAN
      have HBW := Lib.hid (show Below w.heap.size w (w5.alloc (.cells #[.int .i64 0, .int .i64 0, .int .u64 0, .int .u64 0, .int .u64 0] 63)) from HMI.out.2.2.2.2.trans (((HOJ.out.then_below HB5.out).below (B := w.heap.size) HMI.out.2.2.2.2.size fun k e => e.elim (fun e => e ▸ HMI.out.2.2.2.1.1) fun e => HMI.out.2.2.2.1.2 k e)))
      clear b5
      go_wp2_with fail
      refine HAN.out.mono ?_
      rintro e w6 ⟨rfl, b6⟩
      have HB6 := Lib.hid (fun o => (ba_b HBW.out (ba_b b6 (box_below w6 o))))
      clear b6
      go_wp2
      go_ret
      exact ⟨rfl, HB6.out _⟩
    | some d =>
      have HE := Lib.hid (show j + 1 ≤ 19 ∧ steps (SrM.stA 1 1 (IntKind.u64.wrap 5) (IntKind.u64.wrap (DM.heightI 0 1))) (SrM.stT 1 1 0 5 (IntKind.u64.wrap 5) (IntKind.u64.wrap (DM.heightI 0 1)) (DM.heightI 0 1)) (19 - (j + 1)) (nextD m d) ((SrM.stT 1 1 0 5 (IntKind.u64.wrap 5) (IntKind.u64.wrap (DM.heightI 0 1)) (DM.heightI 0 1)) s (foundD m d)) = some (lf, sf) by
        by_cases h0 : j = 19
        · exfalso
          have h1 := HAJ.out
          rw [h0, Nat.sub_self] at h1
          simp only [steps, Option.some.injEq, Prod.mk.injEq] at h1
          have h2 := HEN.out.1
          rw [← h1.2, hx] at h2
          cases h2
        · have h1 := HAJ.out
          rw [show 19 - j = (19 - (j + 1)) + 1 by omega, steps_more hx] at h1
          exact ⟨by omega, h1⟩)
      have HDF := Lib.hid (start_fitsW HS.out hx)
      rw [hx] at HNX
      unfold ansV ansD at HNX
      simp only [Option.getD_some, Option.isSome_some] at HNX
      clear hx
      go_wp2_with fail
      refine HNX.out.mono ?_
      rintro e w5 ⟨rfl, b5⟩
      have HB5 := Lib.hid (b5.trans ((box_below w5 (.cells #[.int .i64 d.1, .int .i64 d.2.1, .int .u64 d.2.2.1, .int .u64 d.2.2.2.1, .int .u64 d.2.2.2.2] 63)).mono b5.size))
      have HM5 := Lib.hid (HMJ.out.later HB5.out)
      have HS5 := Lib.hid (HS.out.later HB5.out)
      clear b5
      go_wp2_with fail
      refine (DeedDo.Do_any HM5.out d).mono ?_
      rintro e w6 ⟨rfl, g6, m6⟩
      have HM6 := Lib.hid m6
      have HO6 := Lib.hid (only_grown (R := fun k => k = h) g6 fun k e => by cases e; rfl)
      have HNS := Lib.hid (show ¬ S5 h from fun e => (HSB.out _ e).elim HMI.out.2.2.1.2 fun z => by have := HLT.out; omega)
      have HS6 := Lib.hid (HS5.out.only HO6.out (fun k z e => HNS.out (e ▸ z)))
      clear g6 m6
      go_wp2_with fail
      refine (Start_tell HS6.out (by omega) (fits_found HFM.out d)).mono ?_
      rintro e w7 ⟨rfl, S7, s7, g7⟩
      have H7 := Lib.hid (Amid.more HLT.out HMI.out.2.2.1 HE.out.1 HB5.out HOJ.out HSB.out HDF.out HFM.out HE.out.2 HO6.out HM6.out s7 g7)
      clear s7 g7
      go_wp2
      go_roundw
      case rel => exact ⟨j + 1, by go_num, H7.out⟩
      case measure => simp [intOf]; omega
end Go.Proofs.YtlagghghbpbcbaaGreatDoor.Law31

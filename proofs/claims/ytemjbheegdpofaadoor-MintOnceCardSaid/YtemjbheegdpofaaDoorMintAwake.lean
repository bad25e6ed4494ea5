/- Law 19's example. -/
import Derived.Test.YtemjbheegdpofaaDoorMintTell
import Derived.Test.YtemjbheegdpofaaDoorMintOnceMath
import Derived.Test.YtemjbheegdpofaaDoorDeedDo
import Derived.Test.YtemjbheegdpofaaDoorBlankWalks
namespace Go.Proofs.YtemjbheegdpofaaDoor.Law19
set_option maxRecDepth 20000
open Go.ChangeShapes Go.WideShapes Go.ChangeAt Go.RowKit CM DM PM MiM BM MM Runs Lay Plan Go.Proofs.YtemjbheegdpofaaDoor.Task
open Go.Proofs.YtemjbheegdpofaaDoor.Cells (Mem Does Store_any Load_any)
open Go.Proofs.YtemjbheegdpofaaDoor.Mint (Makes Mint_any Make_next Make_tell Ref_any Key_any)
set_option linter.unusedVariables false
set_option linter.unusedSimpArgs false

theorem wf_u64 {a : Int} (h : (Lit.int .u64 a).wf = true) : 0 ≤ a ∧ a < 18446744073709551616 := by
  simp [Lit.wf, IntKind.min, IntKind.max, IntKind.signed, IntKind.bits] at h; omega
theorem wf_i64 {a : Int} (h : (Lit.int .i64 a).wf = true) : -9223372036854775808 ≤ a ∧ a ≤ 9223372036854775807 := by
  simp [Lit.wf, IntKind.min, IntKind.max, IntKind.signed, IntKind.bits] at h; omega
theorem plan4 {w w' : World} {N : Nat} {R : Nat → Prop} {T S L G : Int} (h : w.cell? ⟨N, 0, none⟩ = some (.int .i64 T) ∧ w.cell? ⟨N, 1, none⟩ = some (.int .i64 S) ∧ w.cell? ⟨N, 2, none⟩ = some (.int .i64 L) ∧ w.cell? ⟨N, 3, none⟩ = some (.int .u64 G)) (ho : Only R w w') (hr : ¬ R N) :
    w'.cell? ⟨N, 0, none⟩ = some (.int .i64 T) ∧ w'.cell? ⟨N, 1, none⟩ = some (.int .i64 S) ∧ w'.cell? ⟨N, 2, none⟩ = some (.int .i64 L) ∧ w'.cell? ⟨N, 3, none⟩ = some (.int .u64 G) :=
  ⟨ho.cell h.1 hr, ho.cell h.2.1 hr, ho.cell h.2.2.1 hr, ho.cell h.2.2.2 hr⟩
/-- The example's words, and what being made comes to. -/
def exL : List Int := setI (layL (wordsN 1 3 1) ((1 : Nat) : Int) ((3 : Nat) : Int) ((1 : Nat) : Int) (SM.stI 3 0) 3) 2 7
def exE : List Int × St := alone (minA 1 1 2 (IntKind.u64.wrap 50) (IntKind.u64.wrap 1)) (minT 2) 7 exL ⟨0, 0, 0, 0⟩
theorem ex_k : exE.2.k = 7 := by decide +kernel
theorem ex_r : exE.2.r = RM.ofI 3 2 := by decide +kernel
theorem ex_sq : exE.2.sq = 7 := by decide +kernel
theorem ex_dead : getI exE.1 (atI 1 1 2 1) = 50 := by decide +kernel
theorem ex_fits : BM.Fits exL := fits_set (fits_lay _ _ _ ⟨SM.stI_lo _ _, SM.stI_hi _ _⟩ (by decide) _) _ (by decide)

/-- Amid the deeds. -/
def exAt (w : World) (pc h n p : Nat) (j : Nat) (wr : World) : Prop :=
  ∃ l s, j ≤ 7 ∧ s.k = j ∧ Mem wr pc h n l ∧ BM.Fits l ∧ Makes wr p 1 1 2 50 (IntKind.u64.wrap 50) (IntKind.u64.wrap 1) s ∧ alone (minA 1 1 2 (IntKind.u64.wrap 50) (IntKind.u64.wrap 1)) (minT 2) (7 - j) l s = exE ∧ Only (fun k => k = h ∨ k = p) w wr
set_option maxHeartbeats 1000000 in
theorem awake_any (w : World) : Calls Tryd.prog 5 #[] w fun e w' => e = .returned (.bool true) ∧ Below w.heap.size w w' := by
  have HMK := Lib.hid (fun W : World => Blank.Make_yes (T := 1) (S := 3) (L := 1) (G := 3) (by decide) (by decide) W)
  have HB0 := Lib.hid (box_below w (.cells #[.int .i64 1, .int .i64 3, .int .i64 1, .int .u64 3] 24))
  have HC := Lib.hid (box4 w (.int .i64 1) (.int .i64 3) (.int .i64 1) (.int .u64 3) 24)
  obtain ⟨c_0, c_1, c_2, c_3⟩ := HC.out
  go_enter Tryd.func5, Tryd.ntmps5
  go_wp2_with fail
  refine (HMK.out _).mono ?_
  rintro e1 w1 ⟨pc, h, rfl, m1, p1, h1, b1⟩
  obtain ⟨n, hn⟩ : ∃ n, n = wordsN 1 3 1 := ⟨_, rfl⟩
  rw [← hn] at m1
  have HNE := Lib.hid (show w.heap.size < pc ∧ w.heap.size < h by simp at p1 h1; omega)
  have HB1 := Lib.hid (HB0.out.trans (b1.mono HB0.out.size))
  have HC1 := Lib.hid (plan4 HC.out (only_below (fun _ => False) b1) id)
  have HM1 := Lib.hid m1
  clear m1 p1 h1 b1 c_0 c_1 c_2 c_3
  obtain ⟨c_0, c_1, c_2, c_3⟩ := HC1.out
  go_wp2_with fail
  refine (Store_any HM1.out 2 7).mono ?_
  rintro e2 w2 ⟨rfl, g2, m2⟩
  rw [hn] at m2
  change Mem w2 pc h _ exL at m2
  rw [← hn] at m2
  have HO2 := Lib.hid (only_grown (R := fun k => k = h) g2 fun k e => by cases e; rfl)
  have HM2 := Lib.hid m2
  have HC2 := Lib.hid (plan4 HC1.out HO2.out (by have := HNE.out; omega))
  have HB2 := Lib.hid (HB1.out.trans (HO2.out.below HB1.out.size (fun k e => by subst e; exact Nat.le_of_lt HNE.out.2)))
  clear m2 g2 hn c_0 c_1 c_2 c_3
  obtain ⟨c_0, c_1, c_2, c_3⟩ := HC2.out
  go_wp2_with fail
  refine (Mint_any 1 3 1 3 2 50 1 _).mono ?_
  rintro e3 w3 ⟨p, rfl, p3, hp3, b3⟩
  have HP := Lib.hid (show w.heap.size < p ∧ pc < p ∧ h < p by have := HM2.out.lt; have := HNE.out; omega)
  have HB3 := Lib.hid (HB2.out.trans (b3.mono HB2.out.size))
  have HC3 := Lib.hid (plan4 HC2.out (only_below (fun _ => False) b3) id)
  have H3 := Lib.hid (show exAt w3 pc h n p 0 w3 from ⟨exL, _, by omega, rfl, HM2.out.later b3, ex_fits, p3, rfl, Only.refl _ _⟩)
  clear p3 hp3 b3 c_0 c_1 c_2 c_3
  go_wp2
  go_loopw [5] (fun iv wr => ∃ j : Nat, iv = .int .i64 j ∧ exAt w3 pc h n p j wr) (fun iv _ => 8 - (intOf iv).toNat)
  case atStart => exact ⟨0, rfl, H3.out⟩
  case round =>
    obtain ⟨j, rfl, l, s, hj, hk, hm, hf, hp, ha, ho⟩ := hrel
    have HMJ := Lib.hid hm
    have HFJ := Lib.hid hf
    have HPJ := Lib.hid hp
    have HAJ := Lib.hid ha
    have HOJ := Lib.hid ho
    have HNX := Lib.hid (Make_next hp)
    have HKJ := Lib.hid hk
    clear hm hf hp ha ho hk
    by_cases hlt : j < 7
    · obtain ⟨d, hx⟩ := minA_some (T := 1) (L := 1) (i := 2) (dw := IntKind.u64.wrap 50) (tw := IntKind.u64.wrap 1) (s := s) (by rw [HKJ.out]; exact hlt)
      have HE := Lib.hid (show alone (minA 1 1 2 (IntKind.u64.wrap 50) (IntKind.u64.wrap 1)) (minT 2) (7 - (j + 1)) (nextD l d) (minT 2 s (foundD l d)) = exE by
        have h1 := HAJ.out
        rw [show 7 - j = (7 - (j + 1)) + 1 by omega, alone_more hx] at h1
        exact h1)
      have HDF := Lib.hid (minA_fits HPJ.out.2 (show Word (IntKind.u64.wrap 50) by rw [IntKind.wrap_u64]; exact ⟨by decide, by decide⟩) (show Word (IntKind.u64.wrap 1) by rw [IntKind.wrap_u64]; exact ⟨by decide, by decide⟩) hx)
      rw [hx] at HNX
      clear hx
      go_wp2_with fail
      refine HNX.out.mono ?_
      rintro e4 w4 ⟨rfl, b4⟩
      simp only [Option.getD_some, Option.isSome_some]
      have HB4 := Lib.hid (b4.trans ((box_below _ (.cells #[.int .i64 d.1, .int .i64 d.2.1, .int .u64 d.2.2.1, .int .u64 d.2.2.2.1, .int .u64 d.2.2.2.2] 32)).mono b4.size))
      have HM4 := Lib.hid (HMJ.out.later HB4.out)
      have HP4 := Lib.hid (HPJ.out.only (only_below (fun _ => False) HB4.out) id)
      have HO4 := Lib.hid (HOJ.out.then_below HB4.out)
      clear b4
      go_wp2_with fail
      refine (DeedDo.Do_any HM4.out d).mono ?_
      rintro e5 w5 ⟨rfl, g5, m5⟩
      have HM5 := Lib.hid m5
      have hg5 := only_grown (R := fun k => k = h) g5 fun k e => by cases e; rfl
      have HP5 := Lib.hid (HP4.out.only hg5 (fun e => by have := HP.out; omega))
      have HO5 := Lib.hid (HO4.out.trans (hg5.wide fun k e => .inl (.inl e)))
      clear g5 m5 hg5
      go_wp2_with fail
      refine (Make_tell HP5.out (fits_found HFJ.out d)).mono ?_
      rintro e6 w6 ⟨rfl, p6, o6⟩
      have H6 := Lib.hid (show exAt w3 pc h n p (j + 1) w6 from ⟨_, _, by omega, by rw [minT_k (by rw [HKJ.out]; exact hlt), HKJ.out], ⟨HM5.out.1, HM5.out.2.1, HM5.out.2.2.1, o6.cell HM5.out.box (show ¬ pc = p by have := HP.out; omega), o6.own HM5.out.own (fun k e => by cases e; show ¬ h = p; have := HP.out; omega)⟩, fits_next HFJ.out HDF.out, p6, HE.out, HO5.out.trans (o6.wide fun k e => .inl (.inr e))⟩)
      clear p6 o6
      go_wp2
      go_roundw
      case rel => exact ⟨j + 1, by go_num, H6.out⟩
      case measure => simp [intOf]; omega
    · obtain rfl : j = 7 := by omega
      have HE := Lib.hid (show (l, s) = exE from HAJ.out)
      have HB7 := Lib.hid (HB3.out.trans (HOJ.out.below HB3.out.size (fun k e => by have := HNE.out; have := HP.out; omega)))
      obtain ⟨c_0, c_1, c_2, c_3⟩ := plan4 HC3.out HOJ.out (by have := HNE.out; have := HP.out; omega)
      have HRF := Lib.hid (Ref_any HPJ.out)
      have HKY := Lib.hid (Key_any HPJ.out)
      rw [show refI s = RM.ofI 3 2 by unfold refI; rw [if_pos HKJ.out, ← ex_r, ← HE.out]] at HRF
      rw [show keyI 50 s = (50, 7) by unfold keyI; rw [if_pos HKJ.out, ← ex_sq, ← HE.out]] at HKY
      have HLD := Lib.hid (show getI l (atI 1 1 2 1) = 50 by rw [← ex_dead, ← HE.out])
      have HOF := Lib.hid (fun W : World => Refer.Of_any 3 2 (by decide) W)
      have HDE := Lib.hid (fun W : World => Plan.Dead_any 1 3 1 3 2 W)
      generalize RM.ofI 3 2 = r at HRF HOF
      generalize atI 1 1 2 1 = a at HLD HDE
      go_wp2_with fail
      refine HRF.out.mono ?_
      rintro e w' ⟨rfl, rfl⟩
      go_wp2_with fail
      refine (HOF.out _).mono ?_
      rintro e w' ⟨rfl, rfl⟩
      have hrr : (r == r) = true := by simp
      go_wp2_with fail
      refine HKY.out.mono ?_
      rintro e w8 ⟨rfl, b8⟩
      have HB8 := Lib.hid (HB7.out.trans (b8.mono HB7.out.size))
      have HM8 := Lib.hid (HMJ.out.later b8)
      have hc8 := plan4 ⟨c_0, c_1, c_2, c_3⟩ (only_below (fun _ => False) b8) id
      clear b8 c_0 c_1 c_2 c_3
      obtain ⟨c_0, c_1, c_2, c_3⟩ := hc8
      go_wp2_with fail
      refine (HDE.out _).mono ?_
      rintro e w9 ⟨rfl, b9⟩
      have HB9 := Lib.hid (HB8.out.trans (b9.mono HB8.out.size))
      have HLO := Lib.hid (Load_any (HM8.out.later b9) a)
      rw [HLD.out] at HLO
      clear b9
      go_wp2_with fail
      refine HLO.out.mono ?_
      rintro e w' ⟨rfl, rfl⟩
      go_wp2
      go_ret
      exact ⟨rfl, HB9.out⟩
end Go.Proofs.YtemjbheegdpofaaDoor.Law19

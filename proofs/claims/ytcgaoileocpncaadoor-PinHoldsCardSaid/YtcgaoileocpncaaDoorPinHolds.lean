/- PinHolds: for every plan that is right, every thread that there is and every epoch, a thread that pinned, alone, is where the epoch was, no other thread is moved, and it is nowhere when it has left, the epoch being what it was (of another plan, or thread, just the chapter's example is asked); and that example comes out; the arguments read as they did. Condition: the library's listed tables hold what its own text lays in them (tied by the card). -/
import Derived.Test.YtcgaoileocpncaaDoorPinAwake
import Derived.Test.YtcgaoileocpncaaDoorMem
import Derived.Test.YtcgaoileocpncaaDoorDeedDo
import Derived.Test.YtcgaoileocpncaaDoorBlankWalks
import Derived.Test.YtcgaoileocpncaaDoorFour
import Derived.Test.YtcgaoileocpncaaDoorFrame
import Derived.Test.YtcgaoileocpncaaDoorFrameLaid
import Derived.Test.YtcgaoileocpncaaDoorTie
import Derived.Test.YtcgaoileocpncaaDoorCards
namespace Go.Proofs.YtcgaoileocpncaaDoor.PinHolds
set_option maxRecDepth 20000
open Go.ChangeShapes Go.WideShapes Go.ChangeAt Go.RowKit CM DM PM PiM BM MM Lay Plan Pin Go.Proofs.YtcgaoileocpncaaDoor.Task
open Go.Proofs.YtcgaoileocpncaaDoor.Cells (Mem Does Store_any Load_any)
open Go.Proofs.YtcgaoileocpncaaDoor.Law13 (plan4 awake_any wf_u64)
set_option linter.unusedVariables false
set_option linter.unusedSimpArgs false

theorem held {W : World} (h : laidMetH Tryd.prog Rows.pinHoldsRow.laid W) : True := trivial

/-! The words. -/
/-- Behind so many deeds of a pinning: the words, and where the task is. -/
def At (a e : Int) (l1 : List Int) : Nat → List Int → St → Prop
  | 0, l, s => l = l1 ∧ s = ⟨1, a, 0⟩
  | 1, l, s => l = l1 ∧ s = ⟨2, a, e⟩
  | _ + 2, l, s => l = setI l1 a e ∧ s = ⟨0, a, e⟩
theorem at_step {a e : Int} {l1 l : List Int} {j : Nat} {s : St} (h : At a e l1 j l s) (hj : j < 2) (h0 : getI l1 0 = e) (ha : -9223372036854775808 ≤ a ∧ a ≤ 9223372036854775807) (he : 0 ≤ e ∧ e < 18446744073709551616) :
    ∃ d, pinA s = some d ∧ DM.Fits d ∧ At a e l1 (j + 1) (nextD l d) (pinT s (foundD l d)) := by
  match j, h with
  | 0, h =>
    obtain ⟨rfl, rfl⟩ := h
    refine ⟨_, pinA_1 a 0, ?_, ?_⟩
    · unfold DM.Fits; simp only; omega
    · rw [nextD_1, foundD_yes (by simp), pinT_1]
      simp only
      rw [h0]
      exact ⟨rfl, rfl⟩
  | 1, h =>
    obtain ⟨rfl, rfl⟩ := h
    refine ⟨_, pinA_2 a e, ?_, ?_⟩
    · unfold DM.Fits; simp only; omega
    · rw [nextD_2, foundD_yes (by simp), pinT_2]
      exact ⟨rfl, rfl⟩
  | j + 2, h => omega
theorem at_end {a e : Int} {l1 l : List Int} {s : St} (h : At a e l1 2 l s) : l = setI l1 a e := h.1
/-- All that the law asks of the words. -/
theorem words_are {T S L i : Nat} (g e : Int) (hT : T ≤ 8) (hS : S ≤ 64) (hL : L ≤ 8) (hi : i < T) : ∃ l1, l1 = setI (layL (wordsN T S L) T S L g S) 0 e ∧ getI l1 0 = e ∧
    (∀ k : Nat, k < T → getI (setI l1 (ofI (T : Int) 0 (i : Int)) e) (ofI (T : Int) 0 (k : Int)) = if k = i then e else 0) ∧
    getI (setI (setI l1 (ofI (T : Int) 0 (i : Int)) e) (ofI (T : Int) 0 (i : Int)) 0) (ofI (T : Int) 0 (i : Int)) = 0 ∧ getI (setI (setI l1 (ofI (T : Int) 0 (i : Int)) e) (ofI (T : Int) 0 (i : Int)) 0) 0 = e := by
  have hof : ∀ k : Nat, k < T → ofI (T : Int) 0 (k : Int) = ((4 + k : Nat) : Int) := fun k hk => by
    have := (of_nat (S := S) (L := L) (n := 0) hT (by omega) hk).1
    simpa using this
  have hw : 4 + T ≤ wordsN T S L := by unfold wordsN; omega
  have hl := lay_length (wordsN T S L) (T : Int) (S : Int) (L : Int) g S
  have h1 : getI (setI (layL (wordsN T S L) T S L g S) 0 e) 0 = e := get_set (there_in (j := 0) hl (by omega)) e
  refine ⟨_, rfl, h1, fun k hk => ?_, ?_, ?_⟩
  · rw [hof k hk, hof i hi]
    by_cases hk2 : k = i
    · rw [if_pos hk2, hk2]
      exact get_set (there_in (by rw [setI_length]; exact hl) (by omega)) e
    · rw [if_neg hk2, get_other (by omega), get_other (by omega)]
      exact lay_low g hT hS hL (by omega) (by omega) (by omega) S (Nat.le_refl _)
  · rw [hof i hi]
    exact get_set (there_in (by rw [setI_length, setI_length]; exact hl) (by omega)) 0
  · rw [hof i hi, get_other (by omega), get_other (by omega)]
    exact h1

theorem walk_no (T S L G i e : Int) (hr : rightB T S L G = false) (w : World) : Calls Tryd.prog 3 #[.agg #[.int .i64 T, .int .i64 S, .int .i64 L, .int .u64 G], .int .i64 i, .int .u64 e] w fun e w' => e = .returned (.bool true) ∧ Below w.heap.size w w' := by
  have HR := Lib.hid hr
  have HB0 := Lib.hid (box_below w (.cells #[.int .i64 T, .int .i64 S, .int .i64 L, .int .u64 G] 24))
  obtain ⟨c_0, c_1, c_2, c_3⟩ := box4 w (.int .i64 T) (.int .i64 S) (.int .i64 L) (.int .u64 G) 24
  clear hr
  go_enter Tryd.func3, Tryd.ntmps3
  go_wp2_with fail
  refine (Blank.Make_no HR.out _).mono ?_
  rintro e w1 ⟨rfl, b1⟩
  have HB1 := Lib.hid (HB0.out.trans (b1.mono HB0.out.size))
  clear b1 c_0 c_1 c_2 c_3
  go_wp2_with fail
  refine (awake_any _).mono ?_
  rintro e w4 ⟨rfl, b4⟩
  go_wp2
  go_ret
  exact ⟨rfl, HB1.out.trans (b4.mono HB1.out.size)⟩
theorem walk_low (T S L : Nat) (G i e : Int) (hr : rightB (T : Int) (S : Int) (L : Int) G = true) (hG : 0 ≤ G) (hi : i < 0) (w : World) : Calls Tryd.prog 3 #[.agg #[.int .i64 (T : Int), .int .i64 (S : Int), .int .i64 (L : Int), .int .u64 G], .int .i64 i, .int .u64 e] w fun e w' => e = .returned (.bool true) ∧ Below w.heap.size w w' := by
  have HR := Lib.hid hr
  have HG := Lib.hid hG
  have HC := Lib.hid (box4 w (.int .i64 (T : Int)) (.int .i64 (S : Int)) (.int .i64 (L : Int)) (.int .u64 G) 24)
  have HB0 := Lib.hid (box_below w (.cells #[.int .i64 (T : Int), .int .i64 (S : Int), .int .i64 (L : Int), .int .u64 G] 24))
  obtain ⟨c_0, c_1, c_2, c_3⟩ := HC.out
  clear hr hG
  go_enter Tryd.func3, Tryd.ntmps3
  go_wp2_with fail
  refine (Blank.Make_yes HR.out HG.out _).mono ?_
  rintro e w1 ⟨p, h, rfl, m1, p1, h1, b1⟩
  have HB1 := Lib.hid (HB0.out.trans (b1.mono HB0.out.size))
  clear c_0 c_1 c_2 c_3
  obtain ⟨c_0, c_1, c_2, c_3⟩ := plan4 HC.out (only_below (fun _ => False) b1) id
  clear b1 m1 p1 h1
  go_wp2_with fail
  refine (awake_any _).mono ?_
  rintro e w4 ⟨rfl, b4⟩
  go_wp2
  go_ret
  exact ⟨rfl, HB1.out.trans (b4.mono HB1.out.size)⟩
theorem walk_high (T S L : Nat) (G i e : Int) (hr : rightB (T : Int) (S : Int) (L : Int) G = true) (hG : 0 ≤ G) (h0 : 0 ≤ i) (hi : (T : Int) ≤ i) (w : World) : Calls Tryd.prog 3 #[.agg #[.int .i64 (T : Int), .int .i64 (S : Int), .int .i64 (L : Int), .int .u64 G], .int .i64 i, .int .u64 e] w fun e w' => e = .returned (.bool true) ∧ Below w.heap.size w w' := by
  have HR := Lib.hid hr
  have HG := Lib.hid hG
  have HC := Lib.hid (box4 w (.int .i64 (T : Int)) (.int .i64 (S : Int)) (.int .i64 (L : Int)) (.int .u64 G) 24)
  have HB0 := Lib.hid (box_below w (.cells #[.int .i64 (T : Int), .int .i64 (S : Int), .int .i64 (L : Int), .int .u64 G] 24))
  obtain ⟨c_0, c_1, c_2, c_3⟩ := HC.out
  clear hr hG
  go_enter Tryd.func3, Tryd.ntmps3
  go_wp2_with fail
  refine (Blank.Make_yes HR.out HG.out _).mono ?_
  rintro e w1 ⟨p, h, rfl, m1, p1, h1, b1⟩
  have HB1 := Lib.hid (HB0.out.trans (b1.mono HB0.out.size))
  clear c_0 c_1 c_2 c_3
  obtain ⟨c_0, c_1, c_2, c_3⟩ := plan4 HC.out (only_below (fun _ => False) b1) id
  clear b1 m1 p1 h1
  go_wp2_with fail
  refine (awake_any _).mono ?_
  rintro e w4 ⟨rfl, b4⟩
  go_wp2
  go_ret
  exact ⟨rfl, HB1.out.trans (b4.mono HB1.out.size)⟩

/-- Amid the pinning. -/
def Amid (w2 : World) (pc h n q : Nat) (T S L G i a e : Int) (l1 : List Int) (j : Nat) (wr : World) : Prop :=
  ∃ l s, j ≤ 2 ∧ At a e l1 j l s ∧ Mem wr pc h n l ∧ BM.Fits l ∧ Pins wr q T S L G i s ∧ Only (fun k => k = h) w2 wr
set_option maxHeartbeats 2000000 in
theorem walk_within (T S L i : Nat) (G e : Int) (hr : rightB (T : Int) (S : Int) (L : Int) G = true) (hG : 0 ≤ G) (hi : i < T) (he : 0 ≤ e ∧ e < 18446744073709551616) (w : World) :
    Calls Tryd.prog 3 #[.agg #[.int .i64 (T : Int), .int .i64 (S : Int), .int .i64 (L : Int), .int .u64 G], .int .i64 (i : Int), .int .u64 e] w fun e w' => e = .returned (.bool true) ∧ Below w.heap.size w w' := by
  obtain ⟨t1, t8, s1, s64, l1, l8⟩ := Blank.right_nat hr
  obtain ⟨ls, hls, hk0, hkk, hka, hke⟩ := words_are (T := T) (S := S) (L := L) (i := i) (SM.stI G 0) e t8 s64 l8 hi
  have hF1 : BM.Fits ls := by rw [hls]; exact fits_set (fits_lay _ _ _ ⟨SM.stI_lo _ _, SM.stI_hi _ _⟩ (by omega) _) _ he
  obtain ⟨a, ha⟩ : ∃ a, a = ofI (T : Int) 0 (i : Int) := ⟨_, rfl⟩
  have haf : -9223372036854775808 ≤ a ∧ a ≤ 9223372036854775807 := ha ▸ of_fits _ _ _
  rw [← ha] at hkk hka hke
  have HA := Lib.hid ha
  have HAF := Lib.hid haf
  have HLS := Lib.hid hls
  have HK0 := Lib.hid hk0
  have HKK := Lib.hid hkk
  have HKA := Lib.hid hka
  have HKE := Lib.hid hke
  have HF1 := Lib.hid hF1
  have HE := Lib.hid he
  have HR := Lib.hid hr
  have HG := Lib.hid hG
  have HT8 := Lib.hid t8
  have HC := Lib.hid (box4 w (.int .i64 (T : Int)) (.int .i64 (S : Int)) (.int .i64 (L : Int)) (.int .u64 G) 24)
  have HB0 := Lib.hid (box_below w (.cells #[.int .i64 (T : Int), .int .i64 (S : Int), .int .i64 (L : Int), .int .u64 G] 24))
  obtain ⟨c_0, c_1, c_2, c_3⟩ := HC.out
  clear hr hG ha haf hls hk0 hkk hka hke hF1 he t1 s1 s64 l1 l8
  go_enter Tryd.func3, Tryd.ntmps3
  go_wp2_with fail
  refine (Blank.Make_yes HR.out HG.out _).mono ?_
  rintro e1 w1 ⟨p, h, rfl, m1, p1, h1, b1⟩
  obtain ⟨n, hn⟩ : ∃ n, n = wordsN T S L := ⟨_, rfl⟩
  rw [← hn] at m1
  have HNE := Lib.hid (show w.heap.size < p ∧ w.heap.size < h ∧ ¬ w.heap.size = h by simp at p1 h1; omega)
  have HB1 := Lib.hid (HB0.out.trans (b1.mono HB0.out.size))
  have HC1 := Lib.hid (plan4 HC.out (only_below (fun _ => False) b1) id)
  have HM1 := Lib.hid m1
  clear m1 p1 h1 b1 c_0 c_1 c_2 c_3
  obtain ⟨c_0, c_1, c_2, c_3⟩ := HC1.out
  go_wp2_with fail
  refine (Store_any HM1.out 0 e).mono ?_
  rintro e2 w2 ⟨rfl, g2, m2⟩
  rw [hn, ← HLS.out, ← hn] at m2
  have HO2 := Lib.hid (only_grown (R := fun k => k = h) g2 fun k e => by cases e; rfl)
  have HM2 := Lib.hid m2
  have HC2 := Lib.hid (plan4 HC1.out HO2.out HNE.out.2.2)
  have HB2 := Lib.hid (HB1.out.trans (HO2.out.below HB1.out.size (fun k e => by subst e; exact Nat.le_of_lt HNE.out.2.1)))
  clear m2 g2 c_0 c_1 c_2 c_3
  obtain ⟨c_0, c_1, c_2, c_3⟩ := HC2.out
  go_wp2_with fail
  refine (Pin.Pin_any (T : Int) (S : Int) (L : Int) G (i : Int) _).mono ?_
  rintro e3 w3 ⟨q, rfl, p3, hq, b3⟩
  rw [← HA.out] at p3
  have HM3 := Lib.hid (HM2.out.later b3)
  have HC3 := Lib.hid (plan4 HC2.out (only_below (fun _ => False) b3) id)
  have HB3 := Lib.hid (HB2.out.trans (b3.mono HB2.out.size))
  have HQ := Lib.hid (show p ≠ q ∧ h ≠ q ∧ w2.heap.size ≤ q by have := HM2.out.lt; omega)
  have H3 := Lib.hid (show Amid w2 p h n q T S L G i a e ls 0 w3 from ⟨_, _, by omega, ⟨rfl, rfl⟩, HM3.out, HF1.out, p3, only_below _ b3⟩)
  clear p3 hq b3 c_0 c_1 c_2 c_3
  go_wp2
  go_loopw [10] (fun iv wr => ∃ j : Nat, iv = .int .i64 j ∧ Amid w2 p h n q T S L G i a e ls j wr) (fun iv _ => 2 - (intOf iv).toNat)
  case atStart => exact ⟨0, rfl, H3.out⟩
  case round =>
    obtain ⟨j, rfl, l, s, hj, hat, hm, hf, hp, ho⟩ := hrel
    have HMJ := Lib.hid hm
    have HFJ := Lib.hid hf
    have HPJ := Lib.hid hp
    have HOJ := Lib.hid ho
    have HNX := Lib.hid (Pin_next hp)
    have HAT := Lib.hid hat
    clear hm hf hp ho hat
    by_cases hlt : j < 2
    · obtain ⟨d, hx, hdf, hat⟩ := at_step HAT.out hlt HK0.out HAF.out HE.out
      rw [hx] at HNX
      have HDF := Lib.hid hdf
      have HAT2 := Lib.hid hat
      clear hx hdf hat
      go_wp2_with fail
      refine HNX.out.mono ?_
      rintro e4 w4 ⟨rfl, b4⟩
      simp only [Option.getD_some, Option.isSome_some]
      have HB4 := Lib.hid (b4.trans ((box_below w4 (.cells #[.int .i64 d.1, .int .i64 d.2.1, .int .u64 d.2.2.1, .int .u64 d.2.2.2.1, .int .u64 d.2.2.2.2] 34)).mono b4.size))
      have HM4 := Lib.hid (HMJ.out.later HB4.out)
      have HP4 := Lib.hid (HPJ.out.only (only_below (fun _ => False) HB4.out) id)
      have HO4 := Lib.hid (HOJ.out.then_below HB4.out)
      clear b4
      go_wp2_with fail
      refine (DeedDo.Do_any HM4.out d).mono ?_
      rintro e5 w5 ⟨rfl, g5, m5⟩
      have HM5 := Lib.hid m5
      have HP5 := Lib.hid (HP4.out.only (R := fun k => k = h) (only_grown g5 fun k e => by cases e; rfl) (fun e => HQ.out.2.1 e.symm))
      have HO5 := Lib.hid (HO4.out.trans (only_grown g5 fun k e => by cases e; rfl))
      clear g5 m5
      go_wp2_with fail
      refine (Pin_tell HP5.out (fits_found HFJ.out d)).mono ?_
      rintro e6 w6 ⟨rfl, p6, o6⟩
      have H6 := Lib.hid (show Amid w2 p h n q T S L G i a e ls (j + 1) w6 from ⟨_, _, by omega, HAT2.out, ⟨HM5.out.1, HM5.out.2.1, HM5.out.2.2.1, o6.cell HM5.out.box HQ.out.1, o6.own HM5.out.own (fun k e => by cases e; exact HQ.out.2.1)⟩, fits_next HFJ.out HDF.out, p6, HO5.out.more o6 fun k e => .inr (by subst e; exact HQ.out.2.2)⟩)
      clear p6 o6
      go_wp2
      go_roundw
      case rel => exact ⟨j + 1, by go_num, H6.out⟩
      case measure => simp [intOf]; omega
    · have hl2 := at_end ((show j = 2 by omega) ▸ HAT.out)
      rw [hl2] at HMJ
      clear hl2 HNX HAT HPJ HFJ H3 HM3 HC3
      have H7 := Lib.hid (And.intro HMJ.out HOJ.out)
      clear HMJ HOJ
      go_wp2
      go_loopw [13] (fun iv wr => ∃ k : Nat, k ≤ T ∧ iv = .int .i64 k ∧ Mem wr p h n (setI ls a e) ∧ Only (fun k => k = h) w2 wr) (fun iv _ => T - (intOf iv).toNat)
      case atStart => exact ⟨0, Nat.zero_le _, rfl, H7.out⟩
      case round =>
        obtain ⟨k, hk, rfl, hm, ho⟩ := hrel
        have HMK := Lib.hid hm
        have HOK := Lib.hid ho
        clear hm ho H7
        obtain ⟨c_0, c_1, c_2, c_3⟩ := plan4 HC2.out HOK.out HNE.out.2.2
        by_cases hlt : k < T
        · go_wp2_with fail
          refine (Plan.Pin_any (T : Int) (S : Int) (L : Int) G (k : Int) _).mono ?_
          rintro e4 w4 ⟨rfl, b4⟩
          have HM4 := Lib.hid (HMK.out.later b4)
          have HO4 := Lib.hid (HOK.out.then_below b4)
          have HLD := Lib.hid (Load_any HM4.out (ofI (T : Int) 0 (k : Int)))
          rw [HKK.out k hlt] at HLD
          clear b4 c_0 c_1 c_2 c_3
          by_cases hki : k = i
          · rw [if_pos hki] at HLD
            subst hki
            have hkk : ((k : Int) == (k : Int)) = true := by simp
            have hee : (e != e) = false := by simp
            go_wp2_with fail
            refine HLD.out.mono ?_
            rintro e5 w5 ⟨rfl, rfl⟩
            go_wp2
            go_roundw
            case rel => exact ⟨k + 1, by omega, by go_num, HM4.out, HO4.out⟩
            case measure => simp [intOf]; omega
          · rw [if_neg hki] at HLD
            have hkk : ((k : Int) == (i : Int)) = false := by simp; omega
            have hkn : ((k : Int) != (i : Int)) = true := by simp; omega
            have hkz : ¬ (k : Int) = (i : Int) := by omega
            clear hki
            go_wp2_with fail
            refine HLD.out.mono ?_
            rintro e5 w5 ⟨rfl, rfl⟩
            go_wp2
            go_roundw
            case rel => exact ⟨k + 1, by omega, by go_num, HM4.out, HO4.out⟩
            case measure => simp [intOf]; omega
        · obtain rfl : k = T := by omega
          go_wp2_with fail
          refine (Leave_any (k : Int) (S : Int) (L : Int) G (i : Int) _).mono ?_
          rintro e4 w4 ⟨u, rfl, p4, hu, b4⟩
          rw [← HA.out] at p4
          have HM4 := Lib.hid (HMK.out.later b4)
          have HO4 := Lib.hid (HOK.out.then_below b4)
          have HU := Lib.hid (show p ≠ u ∧ h ≠ u ∧ w2.heap.size ≤ u by have h1 := HMK.out.lt; have h2 := HOK.out.size; omega)
          have HP4 := Lib.hid p4
          have HNX := Lib.hid (Leave_next p4)
          rw [pinA_2] at HNX
          clear p4 hu b4 c_0 c_1 c_2 c_3
          go_wp2_with fail
          refine HNX.out.mono ?_
          rintro e5 w5 ⟨rfl, b5⟩
          simp only [Option.getD_some, Option.isSome_some]
          have HB5 := Lib.hid (b5.trans ((box_below w5 (.cells #[.int .i64 2, .int .i64 a, .int .u64 0, .int .u64 0, .int .u64 0] 34)).mono b5.size))
          have HM5 := Lib.hid (HM4.out.later HB5.out)
          have HP5 := Lib.hid (HP4.out.only (only_below (fun _ => False) HB5.out) id)
          have HO5 := Lib.hid (HO4.out.then_below HB5.out)
          clear b5
          go_wp2_with fail
          refine (DeedDo.Do_any HM5.out (2, a, 0, 0, 0)).mono ?_
          rintro e6 w6 ⟨rfl, g6, m6⟩
          rw [nextD_2] at m6
          have HFD := Lib.hid (fits_found (fits_set HF1.out a HE.out) (2, a, 0, 0, 0))
          generalize foundD (setI ls a e) (2, a, 0, 0, 0) = fd at HFD ⊢
          have HM6 := Lib.hid m6
          have HP6 := Lib.hid (HP5.out.only (R := fun k => k = h) (only_grown g6 fun k e => by cases e; rfl) (fun e => HU.out.2.1 e.symm))
          have HO6 := Lib.hid (HO5.out.trans (only_grown g6 fun k e => by cases e; rfl))
          clear g6 m6
          go_wp2_with fail
          refine (Leave_tell HP6.out HFD.out).mono ?_
          rintro e7 w7 ⟨rfl, p7, o7⟩
          rw [pinT_2] at p7
          have HM7 := Lib.hid (show Mem w7 p h n _ from ⟨HM6.out.1, HM6.out.2.1, HM6.out.2.2.1, o7.cell HM6.out.box HU.out.1, o7.own HM6.out.own (fun k e => by cases e; exact HU.out.2.1)⟩)
          have HO7 := Lib.hid (HO6.out.more o7 fun k e => .inr (by subst e; exact HU.out.2.2))
          have HNX7 := Lib.hid (Leave_next p7)
          rw [pinA_0] at HNX7
          clear p7 o7
          go_wp2_with fail
          refine HNX7.out.mono ?_
          rintro e8 w8 ⟨rfl, b8⟩
          simp only [Option.getD_none, Option.isSome_none]
          have HB8 := Lib.hid (b8.trans ((box_below w8 (.cells #[.int .i64 0, .int .i64 0, .int .u64 0, .int .u64 0, .int .u64 0] 34)).mono b8.size))
          have HM8 := Lib.hid (HM7.out.later HB8.out)
          have HO8 := Lib.hid (HO7.out.then_below HB8.out)
          clear b8
          obtain ⟨c_0, c_1, c_2, c_3⟩ := plan4 HC2.out HO8.out HNE.out.2.2
          go_wp2_with fail
          refine (Plan.Pin_any (k : Int) (S : Int) (L : Int) G (i : Int) _).mono ?_
          rintro e9 w9 ⟨rfl, b9⟩
          rw [← HA.out]
          have HM9 := Lib.hid (HM8.out.later b9)
          have HO9 := Lib.hid (HO8.out.then_below b9)
          have HL1 := Lib.hid (Load_any HM9.out a)
          have HL2 := Lib.hid (Load_any HM9.out 0)
          rw [HKA.out] at HL1
          rw [HKE.out] at HL2
          have hee : (e == e) = true := by simp
          clear b9 c_0 c_1 c_2 c_3
          go_wp2_with fail
          refine HL1.out.mono ?_
          rintro e10 w10 ⟨rfl, rfl⟩
          go_wp2_with fail
          refine HL2.out.mono ?_
          rintro e11 w11 ⟨rfl, rfl⟩
          go_wp2_with fail
          refine (awake_any _).mono ?_
          rintro e12 w12 ⟨rfl, b12⟩
          go_wp2
          go_ret
          exact ⟨rfl, HB2.out.trans ((HO9.out.then_below b12).below HB2.out.size (fun k e => by subst e; exact Nat.le_of_lt HNE.out.2.1))⟩

theorem walk (x : Int × Int × Int × Int) (i e : Int) (_ : (Lit.int .i64 x.1).wf = true) (_ : (Lit.int .i64 x.2.1).wf = true) (_ : (Lit.int .i64 x.2.2.1).wf = true) (hg : (Lit.int .u64 x.2.2.2).wf = true) (_ : (Lit.int .i64 i).wf = true) (he : (Lit.int .u64 e).wf = true) (w : World) (_ : True) :
    Calls Tryd.prog 3 #[.agg #[.int .i64 x.1, .int .i64 x.2.1, .int .i64 x.2.2.1, .int .u64 x.2.2.2], .int .i64 i, .int .u64 e] w fun e w' => e = .returned (.bool true) ∧ Below w.heap.size w w' := by
  obtain ⟨T, S, L, G⟩ := x
  simp only
  cases h : rightB T S L G
  · exact walk_no T S L G i e h w
  · have hr := right_is h
    have hG := (wf_u64 hg).1
    obtain ⟨a, rfl⟩ := Int.eq_ofNat_of_zero_le (show 0 ≤ T by have := hr.1; omega)
    obtain ⟨b, rfl⟩ := Int.eq_ofNat_of_zero_le (show 0 ≤ S by have := hr.2.2.1; omega)
    obtain ⟨d, rfl⟩ := Int.eq_ofNat_of_zero_le (show 0 ≤ L by have := hr.2.2.2.2.1; omega)
    by_cases h0 : i < 0
    · exact walk_low a b d G i e h hG h0 w
    · obtain ⟨i, rfl⟩ := Int.eq_ofNat_of_zero_le (show 0 ≤ i by omega)
      by_cases hi : i < a
      · exact walk_within a b d i G e h hG hi (wf_u64 he) w
      · exact walk_high a b d G i e h hG (by omega) (by omega) w
theorem laidOut : laidOutB Tryd.prog = true := by kernel_rfl
theorem own : ownKnob Tryd.prog.godebug = none := by kernel_rfl
theorem door_met (os : Os) (args : Array Value) : laidMetH Tryd.prog Rows.pinHoldsRow.laid ((World.doorLaid Tryd.prog 400 os).forCall (fun _ _ => 0) ⟨#[], args, []⟩).memory :=
  laidMetH_of_parts3 (fuel := 8) (laidMet_of_run' 8 (by kernel_rfl) (by kernel_rfl)) (by kernel_rfl) (by kernel_rfl)
set_option maxRecDepth 100000 in
theorem lifted (os : Os) (started : os.Started) (H : Type) (enc : TypeId × Value → H) :
    ReturnsInHanded {} Tryd.checked os 3 .any (fun w args => (Rows.pinHoldsSpec.pre enc Tryd.prog Tryd.f3 [] false w args ∧ laidMetH Tryd.prog Rows.pinHoldsRow.laid w) ∧ sizedMet enc Tryd.prog Tryd.f3 (OpenSpec.ofChange Rows.pinHoldsSpec) false w args) (Rows.pinHoldsSpec.post enc Tryd.prog Tryd.f3 false true false false) := by
  refine Frame.liftedLaid (C := Tryd.checked) (fn := Tryd.f3) (tb := 4) own started (by kernel_rfl) Tryd.func3
    (ChangeSpec.witness_shaped (enc := enc) (C := Tryd.checked) (os := os) (X := fun w _ => laidMetH Tryd.prog Rows.pinHoldsRow.laid w) false (World.doorLaid Tryd.prog 400 os) #[.agg #[.int .i64 0, .int .i64 0, .int .i64 0, .int .u64 0], .int .i64 0, .int .u64 0] 8 rfl (World.shaped_of_RefB (by kernel_rfl) (by kernel_rfl)) (by kernel_rfl) (by kernel_rfl) (by kernel_rfl) (door_met os _))
    rfl rfl Tryd.underlying4 laidOut (by kernel_rfl) (fun ds h => by match ds, h with | [_, _, _], _ => rfl) ?_
  intro W base args ds ps hval0 hA0 hlt hL
  have hval : ∀ (j : Nat) t v, Tryd.f3.params[j]? = some t → args[j]? = some v → Value.okWide Tryd.prog W .any base t v := hval0
  have hA : DataW.TrodAll enc Tryd.prog W 0 (fun _ => true) true Tryd.f3.params.toList args.toList ds ps := hA0
  rw [Tryd.params3] at hA hval
  obtain ⟨v0, vs0, d0, ds0, p0, q0, hargs, rfl, rfl, h0, r0⟩ := trodAll_cons hA
  obtain ⟨v1, vs1, d1, ds1, p1, q1, rfl, rfl, rfl, h1, r1⟩ := trodAll_cons r0
  obtain ⟨v2, vs2, d2, ds2, p2, q2, rfl, rfl, rfl, h2, r2⟩ := trodAll_cons r1
  obtain ⟨rfl, rfl, rfl⟩ := trodAll_nil r2
  obtain rfl : args = #[v0, v1, v2] := by cases args; simp_all
  obtain ⟨x0, rfl, w0_0, w0_1, w0_2, w0_3⟩ := Open.open_four_ints Tryd.underlying24 (by kernel_rfl) (by kernel_rfl) Tryd.underlying3 Tryd.underlying3 Tryd.underlying3 Tryd.underlying22 (hval 0 24 v0 rfl rfl) h0
  obtain ⟨a1, rfl, _, _, w1⟩ := open_int Tryd.underlying3 (hval 1 3 v1 rfl rfl) h1
  obtain ⟨a2, rfl, _, _, w2⟩ := open_int Tryd.underlying22 (hval 2 22 v2 rfl rfl) h2
  refine (walk x0 a1 a2 w0_0 w0_1 w0_2 w0_3 w1 w2 W (held hL)).mono fun e W' h => ?_
  exact h

theorem over : Rows.pinHoldsRow.holds Tryd.pinned (OpenSpec.ofChange Rows.pinHoldsSpec) :=
  OpenClaim.holds_of_wide 3 Tryd.f3 rfl rfl rfl rfl rfl rfl rfl ⟨rfl, rfl, rfl, rfl, rfl⟩ rfl rfl rfl rfl rfl (by kernel_rfl) Tryd.func3 (by kernel_rfl)
    (of_decide_eq_true (by kernel_rfl)) (by unfold Func.isWrapper; first | (rw [if_pos (by decide +kernel)]; kernel_rfl) | (rw [if_neg (by decide +kernel)]; exact ⟨rfl, rfl⟩))
    (fun os started H enc _ => lifted os started H enc)

theorem proved : Rows.PinHoldsCardSaid :=
  Claim7.holds_tied_plain_at .later [] Rows.pinHoldsCard.laidKinds true Rows.pinHoldsCard.stood.harness Rows.pinHoldsCard.stood.looks
    over (fun _ h => by cases h) (by kernel_rfl) (fun _ h => by cases h) pinHolds_row_tie rfl ⟨rfl, rfl⟩ (by kernel_rfl) rfl
    (fun f fn hf hfn => by
      obtain rfl : f = 3 := Option.some.inj ((show Tryd.prog.funcNamed Rows.pinHoldsRow.func = some 3 by kernel_rfl).symm.trans hf) |>.symm
      obtain rfl : fn = Tryd.f3 := (Option.some.inj (Tryd.func3.symm.trans hfn)).symm
      exact ⟨by kernel_rfl, fun j t ht => by
        rw [Tryd.params3] at ht
        have hm : t ∈ [24, 3, 22] := by simpa using Array.mem_of_getElem? ht
        have hall : ([24, 3, 22].all fun u => !Tryd.prog.wantsStandIn u) = true := by kernel_rfl
        exact (show Tryd.prog.wantsStandIn t = false by simpa using List.all_eq_true.1 hall t hm)⟩)
    (by kernel_rfl)
#print axioms proved
end Go.Proofs.YtcgaoileocpncaaDoor.PinHolds

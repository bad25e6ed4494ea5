/- GiveFrees: for every plan that is right, every slot and generation that there is, a slot that is handed back alone, where no other one is free, is the only free one, of the next generation, or gone for good, if it was of the last one (of another plan, slot or generation just the chapter's example is asked); and that example comes out; the arguments read as they did. Condition: the library's listed tables hold what its own text lays in them (tied by the card). -/
import Derived.Test.YtcnbbflgccdfjaaDoorGiveAwake
import Derived.Test.YtcnbbflgccdfjaaDoorGiveFreesMath
import Derived.Test.YtcnbbflgccdfjaaDoorDeedDo
import Derived.Test.YtcnbbflgccdfjaaDoorBlankFreeWalks
import Derived.Test.YtcnbbflgccdfjaaDoorFour
import Derived.Test.YtcnbbflgccdfjaaDoorFrame
import Derived.Test.YtcnbbflgccdfjaaDoorFrameLaid
import Derived.Test.YtcnbbflgccdfjaaDoorTie
import Derived.Test.YtcnbbflgccdfjaaDoorCards
namespace Go.Proofs.YtcnbbflgccdfjaaDoor.GiveFrees
set_option maxRecDepth 20000
open Go.ChangeShapes Go.WideShapes Go.ChangeAt Go.RowKit CM DM PM GiM BM MM Runs Lay Plan Ints Go.Proofs.YtcnbbflgccdfjaaDoor.Give Go.Proofs.YtcnbbflgccdfjaaDoor.Task
open Go.Proofs.YtcnbbflgccdfjaaDoor.Cells (Mem Does Store_any Load_any)
open Go.Proofs.YtcnbbflgccdfjaaDoor.Law16 (plan4 awake_any wf_u64)
set_option linter.unusedVariables false
set_option linter.unusedSimpArgs false

theorem held {W : World} (h : laidMetH Tryd.prog Rows.giveFreesRow.laid W) : True := trivial

theorem walk_no (T S L G i g : Int) (hr : rightB T S L G = false) (w : World) : Calls Tryd.prog 3 #[.agg #[.int .i64 T, .int .i64 S, .int .i64 L, .int .u64 G], .int .i64 i, .int .u64 g] w fun e w' => e = .returned (.bool true) ∧ Below w.heap.size w w' := by
  have HR := Lib.hid hr
  have HB0 := Lib.hid (box_below w (.cells #[.int .i64 T, .int .i64 S, .int .i64 L, .int .u64 G] 24))
  obtain ⟨c_0, c_1, c_2, c_3⟩ := box4 w (.int .i64 T) (.int .i64 S) (.int .i64 L) (.int .u64 G) 24
  clear hr
  go_enter Tryd.func3, Tryd.ntmps3
  go_wp2_with fail
  refine (Blank.Make_no HR.out _).mono ?_
  rintro e w1 ⟨rfl, b1⟩
  have HB1 := Lib.hid (HB0.out.trans (b1.mono HB0.out.size))
  clear b1 c_0 c_1 c_2 c_3
  go_wp2_with fail
  refine (awake_any _).mono ?_
  rintro e w4 ⟨rfl, b4⟩
  go_wp2
  go_ret
  exact ⟨rfl, HB1.out.trans (b4.mono HB1.out.size)⟩
theorem walk_low (T S L : Nat) (G i g : Int) (hr : rightB (T : Int) (S : Int) (L : Int) G = true) (hG : 0 ≤ G) (hi : i < 1) (w : World) : Calls Tryd.prog 3 #[.agg #[.int .i64 (T : Int), .int .i64 (S : Int), .int .i64 (L : Int), .int .u64 G], .int .i64 i, .int .u64 g] w fun e w' => e = .returned (.bool true) ∧ Below w.heap.size w w' := by
  have HR := Lib.hid hr
  have HG := Lib.hid hG
  have HC := Lib.hid (box4 w (.int .i64 (T : Int)) (.int .i64 (S : Int)) (.int .i64 (L : Int)) (.int .u64 G) 24)
  have HB0 := Lib.hid (box_below w (.cells #[.int .i64 (T : Int), .int .i64 (S : Int), .int .i64 (L : Int), .int .u64 G] 24))
  obtain ⟨c_0, c_1, c_2, c_3⟩ := HC.out
  clear hr hG
  go_enter Tryd.func3, Tryd.ntmps3
  go_wp2_with fail
  refine (Blank.Make_yes HR.out HG.out _).mono ?_
  rintro e w1 ⟨p, h, rfl, m1, p1, h1, b1⟩
  have HB1 := Lib.hid (HB0.out.trans (b1.mono HB0.out.size))
  clear c_0 c_1 c_2 c_3
  obtain ⟨c_0, c_1, c_2, c_3⟩ := plan4 HC.out (only_below (fun _ => False) b1) id
  clear b1 m1 p1 h1
  go_wp2_with fail
  refine (awake_any _).mono ?_
  rintro e w4 ⟨rfl, b4⟩
  go_wp2
  go_ret
  exact ⟨rfl, HB1.out.trans (b4.mono HB1.out.size)⟩
theorem walk_high (T S L : Nat) (G i g : Int) (hr : rightB (T : Int) (S : Int) (L : Int) G = true) (hG : 0 ≤ G) (h0 : 1 ≤ i) (hi : (S : Int) < i) (w : World) : Calls Tryd.prog 3 #[.agg #[.int .i64 (T : Int), .int .i64 (S : Int), .int .i64 (L : Int), .int .u64 G], .int .i64 i, .int .u64 g] w fun e w' => e = .returned (.bool true) ∧ Below w.heap.size w w' := by
  have HR := Lib.hid hr
  have HG := Lib.hid hG
  have HC := Lib.hid (box4 w (.int .i64 (T : Int)) (.int .i64 (S : Int)) (.int .i64 (L : Int)) (.int .u64 G) 24)
  have HB0 := Lib.hid (box_below w (.cells #[.int .i64 (T : Int), .int .i64 (S : Int), .int .i64 (L : Int), .int .u64 G] 24))
  obtain ⟨c_0, c_1, c_2, c_3⟩ := HC.out
  clear hr hG
  go_enter Tryd.func3, Tryd.ntmps3
  go_wp2_with fail
  refine (Blank.Make_yes HR.out HG.out _).mono ?_
  rintro e w1 ⟨p, h, rfl, m1, p1, h1, b1⟩
  have HB1 := Lib.hid (HB0.out.trans (b1.mono HB0.out.size))
  clear c_0 c_1 c_2 c_3
  obtain ⟨c_0, c_1, c_2, c_3⟩ := plan4 HC.out (only_below (fun _ => False) b1) id
  clear b1 m1 p1 h1
  go_wp2_with fail
  refine (awake_any _).mono ?_
  rintro e w4 ⟨rfl, b4⟩
  go_wp2
  go_ret
  exact ⟨rfl, HB1.out.trans (b4.mono HB1.out.size)⟩
theorem walk_gen (T S L : Nat) (G i g : Int) (hr : rightB (T : Int) (S : Int) (L : Int) G = true) (hG : 0 ≤ G) (h0 : 1 ≤ i) (hi : i ≤ (S : Int)) (hg : 4294967295 < g) (w : World) : Calls Tryd.prog 3 #[.agg #[.int .i64 (T : Int), .int .i64 (S : Int), .int .i64 (L : Int), .int .u64 G], .int .i64 i, .int .u64 g] w fun e w' => e = .returned (.bool true) ∧ Below w.heap.size w w' := by
  have HR := Lib.hid hr
  have HG := Lib.hid hG
  have HC := Lib.hid (box4 w (.int .i64 (T : Int)) (.int .i64 (S : Int)) (.int .i64 (L : Int)) (.int .u64 G) 24)
  have HB0 := Lib.hid (box_below w (.cells #[.int .i64 (T : Int), .int .i64 (S : Int), .int .i64 (L : Int), .int .u64 G] 24))
  obtain ⟨c_0, c_1, c_2, c_3⟩ := HC.out
  clear hr hG
  go_enter Tryd.func3, Tryd.ntmps3
  go_wp2_with fail
  refine (Blank.Make_yes HR.out HG.out _).mono ?_
  rintro e w1 ⟨p, h, rfl, m1, p1, h1, b1⟩
  have HB1 := Lib.hid (HB0.out.trans (b1.mono HB0.out.size))
  clear c_0 c_1 c_2 c_3
  obtain ⟨c_0, c_1, c_2, c_3⟩ := plan4 HC.out (only_below (fun _ => False) b1) id
  clear b1 m1 p1 h1
  go_wp2_with fail
  refine (awake_any _).mono ?_
  rintro e w4 ⟨rfl, b4⟩
  go_wp2
  go_ret
  exact ⟨rfl, HB1.out.trans (b4.mono HB1.out.size)⟩

/-- Of the reference of a slot that there is. -/
theorem Give_slot (T N L G : Int) {i g : Int} (i1 : 1 ≤ i) (i2 : i ≤ 2147483647) (g0 : 0 ≤ g) (g1 : g ≤ 4294967295) (w : World) : Calls Tryd.prog 7 #[.agg #[.int .i64 T, .int .i64 N, .int .i64 L, .int .u64 G], .int .u64 (RM.ofI g i)] w fun e w' =>
    ∃ p S, e = .returned (.pointer (some ⟨p, 0, none⟩)) ∧ Gives w' p S T N L G i (wordI g) (init g) ∧ (∀ k, S k → w.heap.size ≤ k ∧ k < w'.heap.size) ∧ Below w.heap.size w w' := by
  have h := Give_any T N L G (RM.ofI g i) (by rw [RM.ofI_yes ⟨g1, i1, i2⟩]; omega) (by rw [RM.ofI_yes ⟨g1, i1, i2⟩]; omega) w
  rw [show RM.ofI g i % 4294967296 / 2 = i by rw [RM.ofI_yes ⟨g1, i1, i2⟩]; omega, show RM.ofI g i / 4294967296 = g by rw [RM.ofI_yes ⟨g1, i1, i2⟩]; omega] at h
  exact h
/-- Amid the handing back. -/
def Amid (w2 : World) (pc h n q : Nat) (Q : Nat → Prop) (T S L G i x : Int) (lf : List Int) (sf : GiM.St) (j : Nat) (wr : World) : Prop :=
  ∃ l s, j ≤ 8 ∧ Mem wr pc h n l ∧ BM.Fits l ∧ Gives wr q Q T S L G i x s ∧ alone (giveA T L i x) giveT (8 - j) l s = (lf, sf) ∧ Only (fun k => k = h ∨ Q k) w2 wr
theorem plan_drew {W : World} {N : Nat} {T S L G : Int} (h : W.cell? ⟨N, 0, none⟩ = some (.int .i64 T) ∧ W.cell? ⟨N, 1, none⟩ = some (.int .i64 S) ∧ W.cell? ⟨N, 2, none⟩ = some (.int .i64 L) ∧ W.cell? ⟨N, 3, none⟩ = some (.int .u64 G)) :
    (fun W : World => W.cell? ⟨N, 0, none⟩ = some (.int .i64 T) ∧ W.cell? ⟨N, 1, none⟩ = some (.int .i64 S) ∧ W.cell? ⟨N, 2, none⟩ = some (.int .i64 L) ∧ W.cell? ⟨N, 3, none⟩ = some (.int .u64 G)) W.drew := h
theorem Free_none {T S L : Nat} {G : Int} (hr : rightB (T : Int) (S : Int) (L : Int) G = true) {p h n : Nat} {l : List Int} {w : World} (hM : Mem w p h n l) (hF : BM.Fits l) (he : freeL T S L l = []) :
    Calls Tryd.prog 12 #[.pointer (some ⟨p, 0, none⟩), .agg #[.int .i64 (T : Int), .int .i64 (S : Int), .int .i64 (L : Int), .int .u64 G]] w fun e w' => ∃ A c, e = .returned (.slice A 0 c) ∧ Below w.heap.size w w' := by
  refine (Blank.Free_yes hr hM hF).mono ?_
  rintro e w' ⟨A, c, rfl, hR, hb⟩
  rw [he]
  exact ⟨A, c, rfl, hb⟩
theorem Free_one {T S L : Nat} {G : Int} (hr : rightB (T : Int) (S : Int) (L : Int) G = true) {p h n : Nat} {l : List Int} {w : World} (hM : Mem w p h n l) (hF : BM.Fits l) {x : Int} (he : freeL T S L l = [x]) :
    Calls Tryd.prog 12 #[.pointer (some ⟨p, 0, none⟩), .agg #[.int .i64 (T : Int), .int .i64 (S : Int), .int .i64 (L : Int), .int .u64 G]] w fun e w' => ∃ b o c, e = .returned (.slice (some ⟨b, o, none⟩) 1 c) ∧ w'.cell? ⟨b, o, none⟩ = some (.int .i64 x) ∧ Below w.heap.size w w' := by
  refine (Blank.Free_yes hr hM hF).mono ?_
  rintro e w' ⟨A, c, rfl, hR, hb⟩
  rw [he] at hR ⊢
  obtain ⟨b, o, rfl, hlt, hc⟩ := int_at hR (show 0 < [x].length by simp)
  exact ⟨b, o, c, rfl, by simpa using hc 0 x rfl, hb⟩
set_option maxHeartbeats 4000000 in
theorem walk_last (T S L i : Nat) (G g x : Int) (ls lf : List Int) (sf : GiM.St) (hr : rightB (T : Int) (S : Int) (L : Int) G = true) (hG : 0 ≤ G) (hi1 : 1 ≤ i) (hi2 : i ≤ S) (hg0 : 0 ≤ g) (hg : g = 4294967295) (hls : ls = setI (layL (wordsN T S L) T S L (SM.stI G 0) S) 3 0) (hx : x = wordI g)
    (hF1 : BM.Fits ls) (hal : alone (giveA (T : Int) (L : Int) (i : Int) x) giveT 8 ls (init g) = (lf, sf)) (had : giveA (T : Int) (L : Int) (i : Int) x sf = none) (hfr : freeL T S L lf = []) (hlx : getI lf (atI (T : Int) (L : Int) (i : Int) 0) = x) (hyes : SM.isI x g 4 = true) (w : World) :
    Calls Tryd.prog 3 #[.agg #[.int .i64 (T : Int), .int .i64 (S : Int), .int .i64 (L : Int), .int .u64 G], .int .i64 (i : Int), .int .u64 g] w fun e w' => e = .returned (.bool true) ∧ Below w.heap.size w w' := by
  obtain ⟨t1, t8, s1, s64, l1, l8⟩ := Blank.right_nat hr
  have hgm : g ≤ 4294967295 := by omega
  have HGV := Lib.hid (fun W : World => Give_slot (T : Int) (S : Int) (L : Int) G (show (1 : Int) ≤ (i : Int) by omega) (by omega) hg0 hgm W)
  rw [← hx] at HGV
  have HOF := Lib.hid (Refer.Of_any g (i : Int) hg0)
  generalize RM.ofI g (i : Int) = r at HGV HOF
  have HXB := Lib.hid (show 0 ≤ x ∧ x < 18446744073709551616 from hx ▸ word_lo g)
  have HIS := Lib.hid (fun W : World => State.Is_any x g 4 (by omega) W)
  rw [hyes] at HIS
  have hgg : (g == 4294967295) = true := by simp <;> omega
  have hgw : ¬ 4294967295 < g := by omega
  have HLS := Lib.hid hls
  have HF1 := Lib.hid hF1
  have HAL := Lib.hid hal
  have HAD := Lib.hid had
  have HFR := Lib.hid hfr
  have HLX := Lib.hid hlx
  have HGB := Lib.hid (And.intro hg0 (show g ≤ 4294967295 by omega))
  have HR := Lib.hid hr
  have HG := Lib.hid hG
  have hi3 : ¬ (i : Int) < 1 := by omega
  have hi4 : ¬ (S : Int) < (i : Int) := by omega
  have HC := Lib.hid (box4 w (.int .i64 (T : Int)) (.int .i64 (S : Int)) (.int .i64 (L : Int)) (.int .u64 G) 24)
  have HB0 := Lib.hid (box_below w (.cells #[.int .i64 (T : Int), .int .i64 (S : Int), .int .i64 (L : Int), .int .u64 G] 24))
  obtain ⟨c_0, c_1, c_2, c_3⟩ := HC.out
  clear hr hG hls hF1 hal had hfr hlx hyes t1 t8 s1 s64 l1 l8 hx hg0 hgm hi1 hi2 hg
  go_enter Tryd.func3, Tryd.ntmps3
  go_wp2_with fail
  refine (Blank.Make_yes HR.out HG.out _).mono ?_
  rintro e1 w1 ⟨p, h, rfl, m1, p1, h1, b1⟩
  obtain ⟨n, hn⟩ : ∃ n, n = wordsN T S L := ⟨_, rfl⟩
  rw [← hn] at m1
  have HNE := Lib.hid (show w.heap.size < p ∧ w.heap.size < h ∧ ¬ w.heap.size = h by simp at p1 h1; omega)
  have HB1 := Lib.hid (HB0.out.trans (b1.mono HB0.out.size))
  have HC1 := Lib.hid (plan4 HC.out (only_below (fun _ => False) b1) id)
  have HM1 := Lib.hid m1
  clear m1 p1 h1 b1 c_0 c_1 c_2 c_3
  obtain ⟨c_0, c_1, c_2, c_3⟩ := HC1.out
  go_wp2_with fail
  refine (Store_any HM1.out 3 0).mono ?_
  rintro e2 w2 ⟨rfl, g2, m2⟩
  rw [hn, ← HLS.out, ← hn] at m2
  have HO2 := Lib.hid (only_grown (R := fun k => k = h) g2 fun k e => by cases e; rfl)
  have HM2 := Lib.hid m2
  have HC2 := Lib.hid (plan4 HC1.out HO2.out HNE.out.2.2)
  have HB2 := Lib.hid (HB1.out.trans (HO2.out.below HB1.out.size (fun k e => by subst e; exact Nat.le_of_lt HNE.out.2.1)))
  clear m2 g2 c_0 c_1 c_2 c_3
  obtain ⟨c_0, c_1, c_2, c_3⟩ := HC2.out
  go_wp2_with fail
  go_region_held3 (fun W => W.cell? ⟨w.heap.size, 0, none⟩ = some (.int .i64 (T : Int)) ∧ W.cell? ⟨w.heap.size, 1, none⟩ = some (.int .i64 (S : Int)) ∧ W.cell? ⟨w.heap.size, 2, none⟩ = some (.int .i64 (L : Int)) ∧ W.cell? ⟨w.heap.size, 3, none⟩ = some (.int .u64 G))
    ((first | (with_reducible exact HC2.out) | (with_reducible exact plan_drew HC2.out) | (with_reducible assumption) | (with_reducible exact HC3.out)))
    (first
      | (go_at_call 8; refine (HOF.out _).mono ?_; rintro e3 w3 ⟨rfl, rfl⟩)
      | (go_at_call 7; refine (HGV.out _).mono ?_; rintro e3 w3 ⟨q, Q, rfl, p3, hq, hb3⟩; have HB3 := Lib.hid (show Below w2.heap.size w2 w3 from (Below.refl _ _).drew.trans hb3); have HP3 := Lib.hid p3; have HQ3 := Lib.hid hq; have HC3 := Lib.hid (plan4 HC2.out (only_below (fun _ => False) HB3.out) id); clear p3 hq hb3))
  have HM3 := Lib.hid (HM2.out.later HB3.out)
  have HQ := Lib.hid (show ¬ Q p ∧ ¬ Q h ∧ ∀ k, Q k → w2.heap.size ≤ k from ⟨fun z => by have h1 := (HQ3.out _ z).1; have h2 := HM2.out.lt; simp at h1; omega, fun z => by have h1 := (HQ3.out _ z).1; have h2 := HM2.out.lt; simp at h1; omega, fun k z => by have h1 := (HQ3.out _ z).1; simpa using h1⟩)
  have H3 := Lib.hid (show Amid w2 p h n q Q T S L G i x lf sf 0 w3 from ⟨_, _, by omega, HM3.out, HF1.out, HP3.out, HAL.out, only_below _ HB3.out⟩)
  clear HP3 HQ3 HM3 c_0 c_1 c_2 c_3
  go_wp2
  go_loopw [10] (fun iv wr => ∃ j : Nat, iv = .int .i64 j ∧ Amid w2 p h n q Q T S L G i x lf sf j wr) (fun iv _ => 9 - (intOf iv).toNat)
  case atStart => exact ⟨0, rfl, H3.out⟩
  case round =>
    obtain ⟨j, rfl, l, s, hj, hm, hf, hp, ha, ho⟩ := hrel
    have HMJ := Lib.hid hm
    have HFJ := Lib.hid hf
    have HPJ := Lib.hid hp
    have HAJ := Lib.hid ha
    have HOJ := Lib.hid ho
    have HNX := Lib.hid (Next_any hp)
    clear hm hf hp ha ho
    cases hx : giveA (T : Int) (L : Int) (i : Int) x s with
    | none =>
      have HE := Lib.hid (show l = lf ∧ s = sf by have := HAJ.out; rw [alone_done hx] at this; simpa using this)
      rw [hx] at HNX
      clear hx
      go_wp2_with fail
      refine HNX.out.mono ?_
      rintro e4 w4 ⟨rfl, b4⟩
      simp only [Option.getD_none, Option.isSome_none]
      have HB4 := Lib.hid (b4.trans ((box_below w4 (.cells #[.int .i64 0, .int .i64 0, .int .u64 0, .int .u64 0, .int .u64 0] 35)).mono b4.size))
      have HM4 := Lib.hid (show Mem (w4.alloc (.cells #[.int .i64 0, .int .i64 0, .int .u64 0, .int .u64 0, .int .u64 0] 35)) p h n lf from HE.out.1 ▸ HMJ.out.later HB4.out)
      have HO4 := Lib.hid (HOJ.out.then_below HB4.out)
      have HF4 := Lib.hid (show BM.Fits lf from HE.out.1 ▸ HFJ.out)
      have HNQ := Lib.hid (show ¬ (w.heap.size = h ∨ Q w.heap.size) from fun z => z.elim HNE.out.2.2 (fun z => by have h1 := HQ.out.2.2 _ z; have h3 := HM2.out.lt; have h4 := HNE.out; omega))
      clear b4
      obtain ⟨c_0, c_1, c_2, c_3⟩ := plan4 HC2.out HO4.out HNQ.out
      go_wp2_with fail
      refine (Free_none HR.out HM4.out HF4.out HFR.out).mono ?_
      rintro e5 w5 ⟨A, c, rfl, b5⟩
      have HM5 := Lib.hid (HM4.out.later b5)
      have HO5 := Lib.hid (HO4.out.then_below b5)
      clear b5 c_0 c_1 c_2 c_3
      obtain ⟨c_0, c_1, c_2, c_3⟩ := plan4 HC2.out HO5.out HNQ.out
      go_wp2_with fail
      refine (Plan.State_any (T : Int) (S : Int) (L : Int) G (i : Int) _).mono ?_
      rintro e6 w6 ⟨rfl, b6⟩
      have hcell6 := True.intro
      have HM6 := Lib.hid (HM5.out.later b6)
      have HO6 := Lib.hid (HO5.out.then_below b6)
      have HLD := Lib.hid (Load_any HM6.out (atI (T : Int) (L : Int) (i : Int) 0))
      rw [HLX.out] at HLD
      clear b6 c_0 c_1 c_2 c_3
      go_wp2_with fail
      refine HLD.out.mono ?_
      rintro e7 w7 ⟨rfl, rfl⟩
      have hg0 := HGB.out.1
      have hgm := HGB.out.2
      go_wp2_with fail
      refine (HIS.out _).mono ?_
      rintro e8 w8 ⟨rfl, rfl⟩
      go_wp2_with fail
      refine (awake_any _).mono ?_
      rintro e9 w9 ⟨rfl, b9⟩
      go_wp2
      go_ret
      exact ⟨rfl, HB2.out.trans ((HO6.out.then_below b9).below HB2.out.size (fun k e => e.elim (fun e => by subst e; exact Nat.le_of_lt HNE.out.2.1) (fun z => Nat.le_trans HB2.out.size (HQ.out.2.2 k z))))⟩
    | some d =>
      have HE := Lib.hid (show j < 8 ∧ alone (giveA (T : Int) (L : Int) (i : Int) x) giveT (8 - (j + 1)) (nextD l d) (giveT s (foundD l d)) = (lf, sf) by
        by_cases h0 : j = 8
        · exfalso
          have h1 := HAJ.out
          subst h0
          simp only [Nat.sub_self, alone, Prod.mk.injEq] at h1
          rw [h1.2, HAD.out] at hx
          cases hx
        · have h1 := HAJ.out
          rw [show 8 - j = (8 - (j + 1)) + 1 by omega, alone_more hx] at h1
          exact ⟨by omega, h1⟩)
      have HDF := Lib.hid (giveA_fits HXB.out HPJ.out.1 hx)
      rw [hx] at HNX
      clear hx
      go_wp2_with fail
      refine HNX.out.mono ?_
      rintro e4 w4 ⟨rfl, b4⟩
      simp only [Option.getD_some, Option.isSome_some]
      have HB4 := Lib.hid (b4.trans ((box_below w4 (.cells #[.int .i64 d.1, .int .i64 d.2.1, .int .u64 d.2.2.1, .int .u64 d.2.2.2.1, .int .u64 d.2.2.2.2] 35)).mono b4.size))
      have HM4 := Lib.hid (HMJ.out.later HB4.out)
      have HP4 := Lib.hid (HPJ.out.only (only_below (fun _ => False) HB4.out) (fun _ _ => id))
      have HO4 := Lib.hid (HOJ.out.then_below HB4.out)
      clear b4
      go_wp2_with fail
      refine (DeedDo.Do_any HM4.out d).mono ?_
      rintro e5 w5 ⟨rfl, g5, m5⟩
      have HM5 := Lib.hid m5
      have HP5 := Lib.hid (HP4.out.only (R := fun k => k = h) (only_grown g5 fun k e => by cases e; rfl) (fun k z e => HQ.out.2.1 (e ▸ z)))
      have HO5 := Lib.hid (HO4.out.trans ((only_grown (R := fun k => k = h) g5 fun k e => by cases e; rfl).wide fun k e => .inl (.inl e)))
      clear g5 m5
      go_wp2_with fail
      refine (Tell_any HP5.out (fits_found HFJ.out d)).mono ?_
      rintro e6 w6 ⟨rfl, p6, o6⟩
      have H6 := Lib.hid (show Amid w2 p h n q Q T S L G i x lf sf (j + 1) w6 from ⟨_, _, by have := HE.out.1; omega, ⟨HM5.out.1, HM5.out.2.1, HM5.out.2.2.1, o6.cell HM5.out.box HQ.out.1, o6.own HM5.out.own (fun k e => by cases e; exact HQ.out.2.1)⟩, fits_next HFJ.out HDF.out, p6, HE.out.2, HO5.out.more o6 fun k e => .inl (.inr e)⟩)
      have hj8 := HE.out.1
      clear p6 o6
      go_wp2
      go_roundw
      case rel => exact ⟨j + 1, by go_num, H6.out⟩
      case measure => simp [intOf]; omega
set_option maxHeartbeats 4000000 in
theorem walk_more (T S L i : Nat) (G g x : Int) (ls lf : List Int) (sf : GiM.St) (hr : rightB (T : Int) (S : Int) (L : Int) G = true) (hG : 0 ≤ G) (hi1 : 1 ≤ i) (hi2 : i ≤ S) (hg0 : 0 ≤ g) (hg : g < 4294967295) (hls : ls = setI (layL (wordsN T S L) T S L (SM.stI G 0) S) 3 0) (hx : x = wordI g)
    (hF1 : BM.Fits ls) (hal : alone (giveA (T : Int) (L : Int) (i : Int) x) giveT 8 ls (init g) = (lf, sf)) (had : giveA (T : Int) (L : Int) (i : Int) x sf = none) (hfr : freeL T S L lf = [(i : Int)]) (hlx : getI lf (atI (T : Int) (L : Int) (i : Int) 0) = x) (hyes : SM.isI x (g + 1) 0 = true) (w : World) :
    Calls Tryd.prog 3 #[.agg #[.int .i64 (T : Int), .int .i64 (S : Int), .int .i64 (L : Int), .int .u64 G], .int .i64 (i : Int), .int .u64 g] w fun e w' => e = .returned (.bool true) ∧ Below w.heap.size w w' := by
  obtain ⟨t1, t8, s1, s64, l1, l8⟩ := Blank.right_nat hr
  have hgm : g ≤ 4294967295 := by omega
  have HGV := Lib.hid (fun W : World => Give_slot (T : Int) (S : Int) (L : Int) G (show (1 : Int) ≤ (i : Int) by omega) (by omega) hg0 hgm W)
  rw [← hx] at HGV
  have HOF := Lib.hid (Refer.Of_any g (i : Int) hg0)
  generalize RM.ofI g (i : Int) = r at HGV HOF
  have HXB := Lib.hid (show 0 ≤ x ∧ x < 18446744073709551616 from hx ▸ word_lo g)
  have HIS := Lib.hid (fun W : World => State.Is_any x (g + 1) 0 (by omega) W)
  rw [hyes] at HIS
  have hgg : (g == 4294967295) = false := by simp <;> omega
  have hgw : ¬ 4294967295 < g := by omega
  have HLS := Lib.hid hls
  have HF1 := Lib.hid hF1
  have HAL := Lib.hid hal
  have HAD := Lib.hid had
  have HFR := Lib.hid hfr
  have HLX := Lib.hid hlx
  have HGB := Lib.hid (And.intro hg0 (show g < 4294967295 by omega))
  have HR := Lib.hid hr
  have HG := Lib.hid hG
  have hi3 : ¬ (i : Int) < 1 := by omega
  have hi4 : ¬ (S : Int) < (i : Int) := by omega
  have HC := Lib.hid (box4 w (.int .i64 (T : Int)) (.int .i64 (S : Int)) (.int .i64 (L : Int)) (.int .u64 G) 24)
  have HB0 := Lib.hid (box_below w (.cells #[.int .i64 (T : Int), .int .i64 (S : Int), .int .i64 (L : Int), .int .u64 G] 24))
  obtain ⟨c_0, c_1, c_2, c_3⟩ := HC.out
  clear hr hG hls hF1 hal had hfr hlx hyes t1 t8 s1 s64 l1 l8 hx hg0 hgm hi1 hi2 hg
  go_enter Tryd.func3, Tryd.ntmps3
  go_wp2_with fail
  refine (Blank.Make_yes HR.out HG.out _).mono ?_
  rintro e1 w1 ⟨p, h, rfl, m1, p1, h1, b1⟩
  obtain ⟨n, hn⟩ : ∃ n, n = wordsN T S L := ⟨_, rfl⟩
  rw [← hn] at m1
  have HNE := Lib.hid (show w.heap.size < p ∧ w.heap.size < h ∧ ¬ w.heap.size = h by simp at p1 h1; omega)
  have HB1 := Lib.hid (HB0.out.trans (b1.mono HB0.out.size))
  have HC1 := Lib.hid (plan4 HC.out (only_below (fun _ => False) b1) id)
  have HM1 := Lib.hid m1
  clear m1 p1 h1 b1 c_0 c_1 c_2 c_3
  obtain ⟨c_0, c_1, c_2, c_3⟩ := HC1.out
  go_wp2_with fail
  refine (Store_any HM1.out 3 0).mono ?_
  rintro e2 w2 ⟨rfl, g2, m2⟩
  rw [hn, ← HLS.out, ← hn] at m2
  have HO2 := Lib.hid (only_grown (R := fun k => k = h) g2 fun k e => by cases e; rfl)
  have HM2 := Lib.hid m2
  have HC2 := Lib.hid (plan4 HC1.out HO2.out HNE.out.2.2)
  have HB2 := Lib.hid (HB1.out.trans (HO2.out.below HB1.out.size (fun k e => by subst e; exact Nat.le_of_lt HNE.out.2.1)))
  clear m2 g2 c_0 c_1 c_2 c_3
  obtain ⟨c_0, c_1, c_2, c_3⟩ := HC2.out
  go_wp2_with fail
  go_region_held3 (fun W => W.cell? ⟨w.heap.size, 0, none⟩ = some (.int .i64 (T : Int)) ∧ W.cell? ⟨w.heap.size, 1, none⟩ = some (.int .i64 (S : Int)) ∧ W.cell? ⟨w.heap.size, 2, none⟩ = some (.int .i64 (L : Int)) ∧ W.cell? ⟨w.heap.size, 3, none⟩ = some (.int .u64 G))
    ((first | (with_reducible exact HC2.out) | (with_reducible exact plan_drew HC2.out) | (with_reducible assumption) | (with_reducible exact HC3.out)))
    (first
      | (go_at_call 8; refine (HOF.out _).mono ?_; rintro e3 w3 ⟨rfl, rfl⟩)
      | (go_at_call 7; refine (HGV.out _).mono ?_; rintro e3 w3 ⟨q, Q, rfl, p3, hq, hb3⟩; have HB3 := Lib.hid (show Below w2.heap.size w2 w3 from (Below.refl _ _).drew.trans hb3); have HP3 := Lib.hid p3; have HQ3 := Lib.hid hq; have HC3 := Lib.hid (plan4 HC2.out (only_below (fun _ => False) HB3.out) id); clear p3 hq hb3))
  have HM3 := Lib.hid (HM2.out.later HB3.out)
  have HQ := Lib.hid (show ¬ Q p ∧ ¬ Q h ∧ ∀ k, Q k → w2.heap.size ≤ k from ⟨fun z => by have h1 := (HQ3.out _ z).1; have h2 := HM2.out.lt; simp at h1; omega, fun z => by have h1 := (HQ3.out _ z).1; have h2 := HM2.out.lt; simp at h1; omega, fun k z => by have h1 := (HQ3.out _ z).1; simpa using h1⟩)
  have H3 := Lib.hid (show Amid w2 p h n q Q T S L G i x lf sf 0 w3 from ⟨_, _, by omega, HM3.out, HF1.out, HP3.out, HAL.out, only_below _ HB3.out⟩)
  clear HP3 HQ3 HM3 c_0 c_1 c_2 c_3
  go_wp2
  go_loopw [10] (fun iv wr => ∃ j : Nat, iv = .int .i64 j ∧ Amid w2 p h n q Q T S L G i x lf sf j wr) (fun iv _ => 9 - (intOf iv).toNat)
  case atStart => exact ⟨0, rfl, H3.out⟩
  case round =>
    obtain ⟨j, rfl, l, s, hj, hm, hf, hp, ha, ho⟩ := hrel
    have HMJ := Lib.hid hm
    have HFJ := Lib.hid hf
    have HPJ := Lib.hid hp
    have HAJ := Lib.hid ha
    have HOJ := Lib.hid ho
    have HNX := Lib.hid (Next_any hp)
    clear hm hf hp ha ho
    cases hx : giveA (T : Int) (L : Int) (i : Int) x s with
    | none =>
      have HE := Lib.hid (show l = lf ∧ s = sf by have := HAJ.out; rw [alone_done hx] at this; simpa using this)
      rw [hx] at HNX
      clear hx
      go_wp2_with fail
      refine HNX.out.mono ?_
      rintro e4 w4 ⟨rfl, b4⟩
      simp only [Option.getD_none, Option.isSome_none]
      have HB4 := Lib.hid (b4.trans ((box_below w4 (.cells #[.int .i64 0, .int .i64 0, .int .u64 0, .int .u64 0, .int .u64 0] 35)).mono b4.size))
      have HM4 := Lib.hid (show Mem (w4.alloc (.cells #[.int .i64 0, .int .i64 0, .int .u64 0, .int .u64 0, .int .u64 0] 35)) p h n lf from HE.out.1 ▸ HMJ.out.later HB4.out)
      have HO4 := Lib.hid (HOJ.out.then_below HB4.out)
      have HF4 := Lib.hid (show BM.Fits lf from HE.out.1 ▸ HFJ.out)
      have HNQ := Lib.hid (show ¬ (w.heap.size = h ∨ Q w.heap.size) from fun z => z.elim HNE.out.2.2 (fun z => by have h1 := HQ.out.2.2 _ z; have h3 := HM2.out.lt; have h4 := HNE.out; omega))
      clear b4
      obtain ⟨c_0, c_1, c_2, c_3⟩ := plan4 HC2.out HO4.out HNQ.out
      go_wp2_with fail
      refine (Free_one HR.out HM4.out HF4.out HFR.out).mono ?_
      rintro e5 w5 ⟨bb, oo, c, rfl, hcell, b5⟩
      have HM5 := Lib.hid (HM4.out.later b5)
      have HO5 := Lib.hid (HO4.out.then_below b5)
      clear b5 c_0 c_1 c_2 c_3
      obtain ⟨c_0, c_1, c_2, c_3⟩ := plan4 HC2.out HO5.out HNQ.out
      go_wp2_with fail
      refine (Plan.State_any (T : Int) (S : Int) (L : Int) G (i : Int) _).mono ?_
      rintro e6 w6 ⟨rfl, b6⟩
      have hcell6 := cell_later b6 hcell
      have HM6 := Lib.hid (HM5.out.later b6)
      have HO6 := Lib.hid (HO5.out.then_below b6)
      have HLD := Lib.hid (Load_any HM6.out (atI (T : Int) (L : Int) (i : Int) 0))
      rw [HLX.out] at HLD
      clear b6 c_0 c_1 c_2 c_3
      go_wp2_with fail
      refine HLD.out.mono ?_
      rintro e7 w7 ⟨rfl, rfl⟩
      have hg0 := HGB.out.1
      have hgm := HGB.out.2
      go_wp2_with fail
      refine (HIS.out _).mono ?_
      rintro e8 w8 ⟨rfl, rfl⟩
      go_wp2_with fail
      refine (awake_any _).mono ?_
      rintro e9 w9 ⟨rfl, b9⟩
      go_wp2
      go_ret
      exact ⟨rfl, HB2.out.trans ((HO6.out.then_below b9).below HB2.out.size (fun k e => e.elim (fun e => by subst e; exact Nat.le_of_lt HNE.out.2.1) (fun z => Nat.le_trans HB2.out.size (HQ.out.2.2 k z))))⟩
    | some d =>
      have HE := Lib.hid (show j < 8 ∧ alone (giveA (T : Int) (L : Int) (i : Int) x) giveT (8 - (j + 1)) (nextD l d) (giveT s (foundD l d)) = (lf, sf) by
        by_cases h0 : j = 8
        · exfalso
          have h1 := HAJ.out
          subst h0
          simp only [Nat.sub_self, alone, Prod.mk.injEq] at h1
          rw [h1.2, HAD.out] at hx
          cases hx
        · have h1 := HAJ.out
          rw [show 8 - j = (8 - (j + 1)) + 1 by omega, alone_more hx] at h1
          exact ⟨by omega, h1⟩)
      have HDF := Lib.hid (giveA_fits HXB.out HPJ.out.1 hx)
      rw [hx] at HNX
      clear hx
      go_wp2_with fail
      refine HNX.out.mono ?_
      rintro e4 w4 ⟨rfl, b4⟩
      simp only [Option.getD_some, Option.isSome_some]
      have HB4 := Lib.hid (b4.trans ((box_below w4 (.cells #[.int .i64 d.1, .int .i64 d.2.1, .int .u64 d.2.2.1, .int .u64 d.2.2.2.1, .int .u64 d.2.2.2.2] 35)).mono b4.size))
      have HM4 := Lib.hid (HMJ.out.later HB4.out)
      have HP4 := Lib.hid (HPJ.out.only (only_below (fun _ => False) HB4.out) (fun _ _ => id))
      have HO4 := Lib.hid (HOJ.out.then_below HB4.out)
      clear b4
      go_wp2_with fail
      refine (DeedDo.Do_any HM4.out d).mono ?_
      rintro e5 w5 ⟨rfl, g5, m5⟩
      have HM5 := Lib.hid m5
      have HP5 := Lib.hid (HP4.out.only (R := fun k => k = h) (only_grown g5 fun k e => by cases e; rfl) (fun k z e => HQ.out.2.1 (e ▸ z)))
      have HO5 := Lib.hid (HO4.out.trans ((only_grown (R := fun k => k = h) g5 fun k e => by cases e; rfl).wide fun k e => .inl (.inl e)))
      clear g5 m5
      go_wp2_with fail
      refine (Tell_any HP5.out (fits_found HFJ.out d)).mono ?_
      rintro e6 w6 ⟨rfl, p6, o6⟩
      have H6 := Lib.hid (show Amid w2 p h n q Q T S L G i x lf sf (j + 1) w6 from ⟨_, _, by have := HE.out.1; omega, ⟨HM5.out.1, HM5.out.2.1, HM5.out.2.2.1, o6.cell HM5.out.box HQ.out.1, o6.own HM5.out.own (fun k e => by cases e; exact HQ.out.2.1)⟩, fits_next HFJ.out HDF.out, p6, HE.out.2, HO5.out.more o6 fun k e => .inl (.inr e)⟩)
      have hj8 := HE.out.1
      clear p6 o6
      go_wp2
      go_roundw
      case rel => exact ⟨j + 1, by go_num, H6.out⟩
      case measure => simp [intOf]; omega

theorem walk (x : Int × Int × Int × Int) (i g : Int) (_ : (Lit.int .i64 x.1).wf = true) (_ : (Lit.int .i64 x.2.1).wf = true) (_ : (Lit.int .i64 x.2.2.1).wf = true) (hg : (Lit.int .u64 x.2.2.2).wf = true) (_ : (Lit.int .i64 i).wf = true) (he : (Lit.int .u64 g).wf = true) (w : World) (_ : True) :
    Calls Tryd.prog 3 #[.agg #[.int .i64 x.1, .int .i64 x.2.1, .int .i64 x.2.2.1, .int .u64 x.2.2.2], .int .i64 i, .int .u64 g] w fun e w' => e = .returned (.bool true) ∧ Below w.heap.size w w' := by
  obtain ⟨T, S, L, G⟩ := x
  simp only
  cases h : rightB T S L G
  · exact walk_no T S L G i g h w
  · have hr := right_is h
    have hG := (wf_u64 hg).1
    have hg0 := (wf_u64 he).1
    obtain ⟨a, rfl⟩ := Int.eq_ofNat_of_zero_le (show 0 ≤ T by have := hr.1; omega)
    obtain ⟨b, rfl⟩ := Int.eq_ofNat_of_zero_le (show 0 ≤ S by have := hr.2.2.1; omega)
    obtain ⟨d, rfl⟩ := Int.eq_ofNat_of_zero_le (show 0 ≤ L by have := hr.2.2.2.2.1; omega)
    by_cases h0 : i < 1
    · exact walk_low a b d G i g h hG h0 w
    by_cases hi : (b : Int) < i
    · exact walk_high a b d G i g h hG (by omega) hi w
    by_cases hgg : 4294967295 < g
    · exact walk_gen a b d G i g h hG (by omega) (by omega) hgg w
    obtain ⟨i, rfl⟩ := Int.eq_ofNat_of_zero_le (show 0 ≤ i by omega)
    obtain ⟨t1, t8, s1, s64, l1, l8⟩ := Blank.right_nat h
    obtain ⟨ls, hls⟩ : ∃ ls, ls = setI (layL (wordsN a b d) a b d (SM.stI G 0) b) 3 0 := ⟨_, rfl⟩
    have hF1 : BM.Fits ls := by rw [hls]; exact fits_set (fits_lay _ _ _ ⟨SM.stI_lo _ _, SM.stI_hi _ _⟩ (by omega) _) _ (by omega)
    have hw4 : 4 ≤ wordsN a b d := by unfold wordsN; omega
    have hnl : ls.length = wordsN a b d := by rw [hls, setI_length]; exact lay_length _ _ _ _ _ _
    have h30 : getI ls 3 = 0 := by rw [hls]; exact get_set (by unfold there; rw [lay_length]; omega) 0
    obtain ⟨⟨f1, f2⟩, m0, m1, m2⟩ := frees_all t8 s64 l8 (show 1 ≤ i by omega) (show i ≤ b by omega) ls hnl h30 (wordI g)
    by_cases hm : g = 4294967295
    · exact walk_last a b d i G g (wordI g) ls _ _ h hG (by omega) (by omega) hg0 hm hls rfl hF1 (by subst hm; rw [init_last]; exact give_last 7) (giveA_n _ _ _ _) f1 f2 (by subst hm; exact word_yes_last) w
    · exact walk_more a b d i G g (wordI g) ls _ _ h hG (by omega) (by omega) hg0 (by omega) hls rfl hF1 (by rw [init_some hm]; exact give_some 4 m0) (by rw [giveA_s, PoM.pushA_0]) m1 m2 (word_yes_next hg0 (by omega)) w
theorem laidOut : laidOutB Tryd.prog = true := by kernel_rfl
theorem own : ownKnob Tryd.prog.godebug = none := by kernel_rfl
theorem door_met (os : Os) (args : Array Value) : laidMetH Tryd.prog Rows.giveFreesRow.laid ((World.doorLaid Tryd.prog 400 os).forCall (fun _ _ => 0) ⟨#[], args, []⟩).memory :=
  laidMetH_of_parts3 (fuel := 8) (laidMet_of_run' 8 (by kernel_rfl) (by kernel_rfl)) (by kernel_rfl) (by kernel_rfl)
set_option maxRecDepth 100000 in
theorem lifted (os : Os) (started : os.Started) (H : Type) (enc : TypeId × Value → H) :
    ReturnsInHanded {} Tryd.checked os 3 .any (fun w args => (Rows.giveFreesSpec.pre enc Tryd.prog Tryd.f3 [] false w args ∧ laidMetH Tryd.prog Rows.giveFreesRow.laid w) ∧ sizedMet enc Tryd.prog Tryd.f3 (OpenSpec.ofChange Rows.giveFreesSpec) false w args) (Rows.giveFreesSpec.post enc Tryd.prog Tryd.f3 false true false false) := by
  refine Frame.liftedLaid (C := Tryd.checked) (fn := Tryd.f3) (tb := 4) own started (by kernel_rfl) Tryd.func3
    (ChangeSpec.witness_shaped (enc := enc) (C := Tryd.checked) (os := os) (X := fun w _ => laidMetH Tryd.prog Rows.giveFreesRow.laid w) false (World.doorLaid Tryd.prog 400 os) #[.agg #[.int .i64 0, .int .i64 0, .int .i64 0, .int .u64 0], .int .i64 0, .int .u64 0] 8 rfl (World.shaped_of_RefB (by kernel_rfl) (by kernel_rfl)) (by kernel_rfl) (by kernel_rfl) (by kernel_rfl) (door_met os _))
    rfl rfl Tryd.underlying4 laidOut (by kernel_rfl) (fun ds h => by match ds, h with | [_, _, _], _ => rfl) ?_
  intro W base args ds ps hval0 hA0 hlt hL
  have hval : ∀ (j : Nat) t v, Tryd.f3.params[j]? = some t → args[j]? = some v → Value.okWide Tryd.prog W .any base t v := hval0
  have hA : DataW.TrodAll enc Tryd.prog W 0 (fun _ => true) true Tryd.f3.params.toList args.toList ds ps := hA0
  rw [Tryd.params3] at hA hval
  obtain ⟨v0, vs0, d0, ds0, p0, q0, hargs, rfl, rfl, h0, r0⟩ := trodAll_cons hA
  obtain ⟨v1, vs1, d1, ds1, p1, q1, rfl, rfl, rfl, h1, r1⟩ := trodAll_cons r0
  obtain ⟨v2, vs2, d2, ds2, p2, q2, rfl, rfl, rfl, h2, r2⟩ := trodAll_cons r1
  obtain ⟨rfl, rfl, rfl⟩ := trodAll_nil r2
  obtain rfl : args = #[v0, v1, v2] := by cases args; simp_all
  obtain ⟨x0, rfl, w0_0, w0_1, w0_2, w0_3⟩ := Open.open_four_ints Tryd.underlying24 (by kernel_rfl) (by kernel_rfl) Tryd.underlying3 Tryd.underlying3 Tryd.underlying3 Tryd.underlying22 (hval 0 24 v0 rfl rfl) h0
  obtain ⟨a1, rfl, _, _, w1⟩ := open_int Tryd.underlying3 (hval 1 3 v1 rfl rfl) h1
  obtain ⟨a2, rfl, _, _, w2⟩ := open_int Tryd.underlying22 (hval 2 22 v2 rfl rfl) h2
  refine (walk x0 a1 a2 w0_0 w0_1 w0_2 w0_3 w1 w2 W (held hL)).mono fun e W' h => ?_
  exact h

theorem over : Rows.giveFreesRow.holds Tryd.pinned (OpenSpec.ofChange Rows.giveFreesSpec) :=
  OpenClaim.holds_of_wide 3 Tryd.f3 rfl rfl rfl rfl rfl rfl rfl ⟨rfl, rfl, rfl, rfl, rfl⟩ rfl rfl rfl rfl rfl (by kernel_rfl) Tryd.func3 (by kernel_rfl)
    (of_decide_eq_true (by kernel_rfl)) (by unfold Func.isWrapper; first | (rw [if_pos (by decide +kernel)]; kernel_rfl) | (rw [if_neg (by decide +kernel)]; exact ⟨rfl, rfl⟩))
    (fun os started H enc _ => lifted os started H enc)

theorem proved : Rows.GiveFreesCardSaid :=
  Claim7.holds_tied_plain_at .later [] Rows.giveFreesCard.laidKinds true Rows.giveFreesCard.stood.harness Rows.giveFreesCard.stood.looks
    over (fun _ h => by cases h) (by kernel_rfl) (fun _ h => by cases h) giveFrees_row_tie rfl ⟨rfl, rfl⟩ (by kernel_rfl) rfl
    (fun f fn hf hfn => by
      obtain rfl : f = 3 := Option.some.inj ((show Tryd.prog.funcNamed Rows.giveFreesRow.func = some 3 by kernel_rfl).symm.trans hf) |>.symm
      obtain rfl : fn = Tryd.f3 := (Option.some.inj (Tryd.func3.symm.trans hfn)).symm
      exact ⟨by kernel_rfl, fun j t ht => by
        rw [Tryd.params3] at ht
        have hm : t ∈ [24, 3, 22] := by simpa using Array.mem_of_getElem? ht
        have hall : ([24, 3, 22].all fun u => !Tryd.prog.wantsStandIn u) = true := by kernel_rfl
        exact (show Tryd.prog.wantsStandIn t = false by simpa using List.all_eq_true.1 hall t hm)⟩)
    (by kernel_rfl)
#print axioms proved
end Go.Proofs.YtcnbbflgccdfjaaDoor.GiveFrees

/- MarkAll: for every plan that is right, every slot that there is, every height, and every list of at most 100 words that others store without a mark, one at a time, into a way on of the timer that has none yet, a marker goes on until all the timer's ways on below its height are marked, no level ahead of the one above, and each of its deeds leaves a way on leading where it led (of another plan, or slot, or of more words, just the chapter's example is asked); and that example comes out; the arguments read as they did. Condition: the library's listed tables hold what its own text lays in them (tied by the card). -/
import Derived.Test.YtpefngpmbladeaaDoorMarkOut
import Derived.Test.YtpefngpmbladeaaDoorMarkAllMath
import Derived.Test.YtpefngpmbladeaaDoorDeedDo
import Derived.Test.YtpefngpmbladeaaDoorBlankWalks
import Derived.Test.YtpefngpmbladeaaDoorInts
import Derived.Deep.RegionHeld3
import Derived.Deep.DeepCutAuto
import Derived.Lib.MinMax
import Derived.Test.YtpefngpmbladeaaDoorFour
import Derived.Test.YtpefngpmbladeaaDoorFrame
import Derived.Test.YtpefngpmbladeaaDoorFrameLaid
import Derived.Test.YtpefngpmbladeaaDoorTie
import Derived.Test.YtpefngpmbladeaaDoorCards
namespace Go.Proofs.YtpefngpmbladeaaDoor.MarkAll
set_option maxRecDepth 20000
open Go.ChangeShapes Go.WideShapes Go.ChangeAt Go.RowKit CM DM PM KM MkM BM MM Runs Lay Plan Ints Go.Proofs.YtpefngpmbladeaaDoor.Task
open Go.Proofs.YtpefngpmbladeaaDoor.MarkOut
open Go.Proofs.YtpefngpmbladeaaDoor.Cells (Mem Does Store_any Load_any)
open Go.Proofs.YtpefngpmbladeaaDoor.Mk (Marks Mark_any Mark_next Mark_tell)
open Go.Proofs.YtpefngpmbladeaaDoor.Law22 (plan4 awake_any wf_u64 wf_i64)
set_option linter.unusedVariables false
set_option linter.unusedSimpArgs false

theorem held {W : World} (h : laidMetH Tryd.prog Rows.markAllRow.laid W) : True := trivial
/-- Amid the steps, behind j of them. -/
def Steps (w3 : World) (pc h nw p T S L i M K : Nat) (G r : Int) (came : Prop) (j : Nat) (wr : World) : Prop :=
  ∃ l s, Mem wr pc h nw l ∧ Marks wr p (T : Int) (S : Int) (L : Int) G r s ∧ Going T S L i M K came j l s ∧ Only (fun b => b = h ∨ b = p) w3 wr
theorem stayx {w W W' : World} {T S L b o j : Nat} {G x : Int} (hb : Below W.heap.size W W') (h : W.cell? ⟨w.heap.size, 0, none⟩ = some (.int .i64 (T : Int)) ∧ W.cell? ⟨w.heap.size, 1, none⟩ = some (.int .i64 (S : Int)) ∧ W.cell? ⟨w.heap.size, 2, none⟩ = some (.int .i64 (L : Int)) ∧ W.cell? ⟨w.heap.size, 3, none⟩ = some (.int .u64 G) ∧ W.cell? ⟨b, o + j, none⟩ = some (.int .u64 x)) : (fun W : World => W.cell? ⟨w.heap.size, 0, none⟩ = some (.int .i64 (T : Int)) ∧ W.cell? ⟨w.heap.size, 1, none⟩ = some (.int .i64 (S : Int)) ∧ W.cell? ⟨w.heap.size, 2, none⟩ = some (.int .i64 (L : Int)) ∧ W.cell? ⟨w.heap.size, 3, none⟩ = some (.int .u64 G) ∧ W.cell? ⟨b, o + j, none⟩ = some (.int .u64 x)) W' :=
  ⟨cell_later hb h.1, cell_later hb h.2.1, cell_later hb h.2.2.1, cell_later hb h.2.2.2.1, cell_later hb h.2.2.2.2⟩
theorem stayg {w W W' : World} {T S L b o j hb : Nat} {G x : Int} (hg : W.grownBy W' (some hb)) (h1 : ¬ w.heap.size = hb) (h2 : ¬ b = hb) (h : W.cell? ⟨w.heap.size, 0, none⟩ = some (.int .i64 (T : Int)) ∧ W.cell? ⟨w.heap.size, 1, none⟩ = some (.int .i64 (S : Int)) ∧ W.cell? ⟨w.heap.size, 2, none⟩ = some (.int .i64 (L : Int)) ∧ W.cell? ⟨w.heap.size, 3, none⟩ = some (.int .u64 G) ∧ W.cell? ⟨b, o + j, none⟩ = some (.int .u64 x)) : (fun W : World => W.cell? ⟨w.heap.size, 0, none⟩ = some (.int .i64 (T : Int)) ∧ W.cell? ⟨w.heap.size, 1, none⟩ = some (.int .i64 (S : Int)) ∧ W.cell? ⟨w.heap.size, 2, none⟩ = some (.int .i64 (L : Int)) ∧ W.cell? ⟨w.heap.size, 3, none⟩ = some (.int .u64 G) ∧ W.cell? ⟨b, o + j, none⟩ = some (.int .u64 x)) W' := by
  have ho := only_grown (R := fun q => q = hb) hg fun q e => by cases e; rfl
  exact ⟨ho.cell h.1 h1, ho.cell h.2.1 h1, ho.cell h.2.2.1 h1, ho.cell h.2.2.2.1 h1, ho.cell h.2.2.2.2 h2⟩
set_option maxHeartbeats 4000000 in
theorem walk_yes (T S L i : Nat) (G tall : Int) (hr : rightB (T : Int) (S : Int) (L : Int) G = true) (hG : 0 ≤ G) (hi : 1 ≤ i ∧ i ≤ S) (A : Option Addr) (xs : List Int) (c : Nat) (hl : xs.length ≤ 100) (hx : ∀ x ∈ xs, 0 ≤ x ∧ x < 18446744073709551616) (w : World) (hR : Row w w.heap.size A (flat (encZ .u64) xs)) : Calls Tryd.prog 3 #[.agg #[.int .i64 (T : Int), .int .i64 (S : Int), .int .i64 (L : Int), .int .u64 G], .agg #[.int .i64 (i : Int), .int .i64 tall], .slice A xs.length c] w fun e w' => e = .returned (.bool true) ∧ Below w.heap.size w w' := by
  obtain ⟨t1, t8, s1, s64, l1, l8⟩ := Blank.right_nat hr
  obtain ⟨n, hn⟩ : ∃ n, n = xs.length := ⟨_, rfl⟩
  rw [← hn] at hl ⊢
  obtain ⟨mi, hmi⟩ : ∃ mi, mi = min tall (L : Int) := ⟨_, rfl⟩
  obtain ⟨M, hM⟩ := Int.eq_ofNat_of_zero_le (show 0 ≤ leftI tall (L : Int) by unfold leftI; omega)
  have HM0 := Lib.hid hM.symm
  have HML := Lib.hid (show M ≤ L by unfold leftI at hM; omega)
  have HMI := Lib.hid (show mi ≤ (M : Int) ∧ (0 < M → mi = (M : Int)) by unfold leftI at hM; omega)
  have HMD := Lib.hid hmi
  have HM8 := Lib.hid (show M ≤ 8 by have := HML.out; omega)
  have HGR := Lib.hid (right_is hr).2.2.2.2.2.2
  have HHI := Lib.hid hi
  obtain ⟨r, hrf⟩ : ∃ r, r = G * 4294967296 + (i : Int) * 2 := ⟨_, rfl⟩
  have hG1 := HGR.out
  have HR2 := Lib.hid (show 0 ≤ r ∧ r < 18446744073709551616 by omega)
  have HIX := Lib.hid (show idx r = (i : Int) by unfold idx; omega)
  have HOF := Lib.hid (show ∀ W, Calls Tryd.prog 7 #[.int .u64 G, .int .i64 (i : Int)] W fun e w' => e = .returned (.int .u64 r) ∧ W = w' from fun W => by
    rw [hrf]
    exact Refer.Of_yes G (i : Int) hG hG1 (by omega) (by omega) W)
  have HMK := Lib.hid (show ∀ W, Calls Tryd.prog 6 #[.agg #[.int .i64 (T : Int), .int .i64 (S : Int), .int .i64 (L : Int), .int .u64 G], .int .u64 r, .int .i64 tall] W fun e w' => ∃ p, e = .returned (.pointer (some ⟨p, 0, none⟩)) ∧ Marks w' p (T : Int) (S : Int) (L : Int) G r ⟨leftI tall (L : Int), 0, 0⟩ ∧ W.heap.size ≤ p ∧ Below W.heap.size W w' from fun W => Mark_any (T : Int) (S : Int) (L : Int) G r tall (by omega) (by omega) W)
  obtain ⟨l0, hl0⟩ : ∃ l0, l0 = layL (wordsN T S L) (T : Int) (S : Int) (L : Int) (SM.stI G 0) S := ⟨_, rfl⟩
  have HGO := Lib.hid (show Going T S L i M n False 0 l0 ⟨leftI tall (L : Int), 0, 0⟩ from hl0 ▸ Going.start (SM.stI G 0) tall t8 s64 l8 hi.2 hM.symm ⟨SM.stI_lo _ _, SM.stI_hi _ _⟩)
  have HOT := Lib.hid (show ∀ (j : Nat) (l : List Int) (s : MkM.St), Going T S L i M n False j l s → j < n → ∀ k : Nat, k < M → ¬ getI l (nextI (T : Int) (L : Int) (i : Int) (k : Int)) % 2 = 1 → ∀ x : Int, 0 ≤ x ∧ x < 18446744073709551616 → Going T S L i M n (j < n) j (setI l (nextI (T : Int) (L : Int) (i : Int) (k : Int)) (x - x % 2)) s from fun j l s h h1 k h2 h3 x h4 => h.others t8 s64 l8 hi.2 HML.out h1 h2 h3 h4)
  have HSTEP := Lib.hid (show ∀ (j : Nat) (l : List Int) (s : MkM.St), Going T S L i M n (j < n) j l s → ∀ d : D, markA (T : Int) (L : Int) r s = some d → Going T S L i M n False (j + 1) (nextD l d) (markT s (foundD l d)) ∧ getI (nextD l d) d.2.1 - getI (nextD l d) d.2.1 % 2 = getI l d.2.1 - getI l d.2.1 % 2 ∧ DM.Fits d from fun j l s h d h1 => h.step t8 s64 l8 hi.2 HML.out hl HIX.out HR2.out h1)
  have HN := Lib.hid hn
  have HRX := Lib.hid hR
  have HXS := Lib.hid hx
  have HR := Lib.hid hr
  have HG := Lib.hid hG
  have HB0 := Lib.hid (below2 w (.cells #[.int .i64 (T : Int), .int .i64 (S : Int), .int .i64 (L : Int), .int .u64 G] 24) (.cells #[.int .i64 (i : Int), .int .i64 tall] 25))
  have HC := Lib.hid (boxes w (T : Int) (S : Int) (L : Int) G (i : Int) tall)
  have HK100 := Lib.hid hl
  obtain ⟨⟨c_0, c_1, c_2, c_3⟩, c_4, c_5⟩ := HC.out
  have hi1 : ¬ (i : Int) < 1 := by omega
  have hi2 : ¬ (S : Int) < (i : Int) := by omega
  have hn1 : ¬ (100 : Int) < (n : Int) := by omega
  clear hr hG hn hR hx hmi hM hrf hG1 t1 t8 s1 s64 l1 l8 hi hl
  go_enter Tryd.func3, Tryd.ntmps3
  go_wp2_with fail
  refine (Blank.Make_yes HR.out HG.out _).mono ?_
  rintro e w1 ⟨pc, hb, rfl, m1, p1, h1, b1⟩
  obtain ⟨nw, hnw⟩ : ∃ nw, nw = wordsN T S L := ⟨_, rfl⟩
  rw [← hl0, ← hnw] at m1
  have HM1 := Lib.hid m1
  have HNE := Lib.hid (show w.heap.size + 1 < pc ∧ w.heap.size + 1 < hb by simp at p1 h1; omega)
  have HB1 := Lib.hid (HB0.out.trans (b1.mono HB0.out.size))
  clear c_0 c_1 c_2 c_3 c_4 c_5
  have HC1 := Lib.hid (HC.out.only (only_below (fun _ => False) b1) ⟨id, id⟩)
  obtain ⟨⟨c_0, c_1, c_2, c_3⟩, c_4, c_5⟩ := HC1.out
  clear b1 m1 p1 h1 hnw hl0
  go_upto_region 2 with fail
  go_cut [9, 10] (fun s9 s10 wx => s9 = .int .i64 (i : Int) ∧ s10 = .int .i64 tall ∧ wx = w1.drew)
  case first =>
    go_region
    all_goals go_wp2_with fail
    all_goals go_meet
    all_goals (case rel => exact ⟨rfl, rfl, rfl⟩)
  obtain ⟨rfl, rfl, rfl⟩ := hcut
  clear c_0 c_1 c_2 c_3 c_4 c_5
  have HD1 := Lib.hid (Below.refl w1.heap.size w1).drew
  have HM2 := Lib.hid (HM1.out.later HD1.out)
  have HB2 := Lib.hid (HB1.out.trans (HD1.out.mono HB1.out.size))
  have HC2 := Lib.hid (HC1.out.only (only_below (fun _ => False) HD1.out) ⟨id, id⟩)
  generalize w1.drew = w2 at HM2 HB2 HC2 ⊢
  obtain ⟨⟨c_0, c_1, c_2, c_3⟩, -, -⟩ := HC2.out
  go_upto_region 5 with fail
  go_cut [11] (fun s11 wx => ∃ p, s11 = .pointer (some ⟨p, 0, none⟩) ∧ Marks wx p (T : Int) (S : Int) (L : Int) G r ⟨leftI tall (L : Int), 0, 0⟩ ∧ w2.heap.size ≤ p ∧ Below w2.heap.size w2 wx)
  case first =>
    have HS0 := Lib.hid (show (fun W : World => W.cell? ⟨w.heap.size, 0, none⟩ = some (.int .i64 (T : Int)) ∧ W.cell? ⟨w.heap.size, 1, none⟩ = some (.int .i64 (S : Int)) ∧ W.cell? ⟨w.heap.size, 2, none⟩ = some (.int .i64 (L : Int)) ∧ W.cell? ⟨w.heap.size, 3, none⟩ = some (.int .u64 G)) w2.drew from HC2.out.1)
    go_region_held3 (fun W => W.cell? ⟨w.heap.size, 0, none⟩ = some (.int .i64 (T : Int)) ∧ W.cell? ⟨w.heap.size, 1, none⟩ = some (.int .i64 (S : Int)) ∧ W.cell? ⟨w.heap.size, 2, none⟩ = some (.int .i64 (L : Int)) ∧ W.cell? ⟨w.heap.size, 3, none⟩ = some (.int .u64 G))
      ((first | (with_reducible exact HS0.out) | (with_reducible assumption) | (with_reducible exact HS3.out)))
      (first
        | (go_at_call 7; refine (HOF.out _).mono ?_; rintro e w3 ⟨rfl, rfl⟩)
        | (go_at_call 6; refine (HMK.out _).mono ?_; rintro e w3 ⟨p, rfl, m3, p3, b3⟩; have HQ3 := Lib.hid m3; have HP3 := Lib.hid p3; have HB3 := Lib.hid ((Below.refl w2.heap.size w2).drew.trans b3); have HS3 := Lib.hid (plan4 HC2.out.1 (only_below (fun _ => False) HB3.out) id); clear m3 p3 b3))
    all_goals go_wp2_with fail
    all_goals go_meet
    all_goals (case rel => exact ⟨_, rfl, HQ3.out, HP3.out, HB3.out⟩)
  obtain ⟨p, rfl, m3, p3, b3⟩ := hcut
  obtain ⟨w3, hw3⟩ : ∃ w3, w3 = wc := ⟨_, rfl⟩
  subst hw3
  have HM3 := Lib.hid (HM2.out.later b3)
  have HB3 := Lib.hid (HB2.out.trans (b3.mono HB2.out.size))
  have HPP := Lib.hid (show pc < p ∧ hb < p ∧ w.heap.size + 1 < p by have := HM2.out.lt; have := HNE.out; omega)
  have H3 := Lib.hid (show Steps w3 pc hb nw p T S L i M n G r False 0 w3 from ⟨_, _, HM3.out, m3, HGO.out, Only.refl _ _⟩)
  have HC3 := Lib.hid (plan4 HC2.out.1 (only_below (fun _ => False) b3) id)
  clear c_0 c_1 c_2 c_3 m3 p3 b3
  obtain ⟨c_0, c_1, c_2, c_3⟩ := HC3.out
  have hm2 := HMD.out.symm
  go_wp2
  clear c_0 c_1 c_2 c_3 hm2
  go_loopw [13] (fun iv wr => ∃ j : Nat, j ≤ 217 ∧ iv = .int .i64 j ∧ Steps w3 pc hb nw p T S L i M n G r False j wr) (fun iv _ => 400 - (intOf iv).toNat)
  case atStart => exact ⟨0, by omega, rfl, H3.out⟩
  case round =>
    obtain ⟨j, hj, rfl, l, s, hm, hp, hg, ho⟩ := hrel
    have HMJ := Lib.hid hm
    have HPJ := Lib.hid hp
    have HGJ := Lib.hid hg
    have HOJ := Lib.hid ho
    have HBW := Lib.hid (show Below w.heap.size w wr from HB3.out.trans (ho.below HB3.out.size (fun k e => by have h1 := HNE.out; have h2 := HPP.out; omega)))
    have HCJ := Lib.hid (plan4 HC3.out ho (fun e => by have h1 := HNE.out; have h2 := HPP.out; omega))
    clear hm hp hg ho
    obtain ⟨bb, hbb⟩ : ∃ bb, bb = decide (j < n ∧ 0 < M) := ⟨_, rfl⟩
    have HBB := Lib.hid hbb
    clear hbb
    go_upto_region 10 with fail
    go_cut [72] (fun s72 wx => s72 = .bool bb ∧ wx = wr)
    case first =>
      by_cases hc : j < n
      · by_cases hM1 : 0 < M
        · have hmz : 0 < mi := by have := HMI.out.2 hM1; omega
          go_wp2_with fail
          go_meet
          case rel => exact ⟨by rw [HBB.out, decide_eq_true ⟨hc, hM1⟩], rfl⟩
        · have hmz : ¬ 0 < mi := by have := HMI.out.1; omega
          go_wp2_with fail
          go_meet
          case rel => exact ⟨by rw [HBB.out, decide_eq_false (fun q => hM1 q.2)], rfl⟩
      · have hcn : ¬ (j : Int) < (n : Int) := by omega
        go_wp2_with fail
        go_meet
        case rel => exact ⟨by rw [HBB.out, decide_eq_false (fun q => hc q.1)], rfl⟩
    obtain ⟨rfl, rfl⟩ := hcut
    go_upto_if 72 with fail
    go_cut [] (fun wx => Steps w3 pc hb nw p T S L i M n G r (j < n) j wx)
    case first =>
      cases bb with
      | false =>
        have HKEEP := Lib.hid (show Steps w3 pc hb nw p T S L i M n G r (j < n) j wc from ⟨_, _, HMJ.out, HPJ.out, HGJ.out.wide False.elim, HOJ.out⟩)
        go_wp2_with fail
        go_meet
        case rel => exact HKEEP.out
      | true =>
        obtain ⟨hc, hM1⟩ := of_decide_eq_true HBB.out.symm
        obtain ⟨k, hk⟩ : ∃ k, k = j % M := ⟨_, rfl⟩
        have hkM : k < M := by rw [hk]; exact Nat.mod_lt _ hM1
        have hmod : Int.tmod (j : Int) (M : Int) = (k : Int) := by rw [hk]; rfl
        have hmz : ((M : Int) == 0) = false := by simp; omega
        have hmiM := HMI.out.2 hM1
        clear HMD HMI HBB
        subst hmiM
        clear hk
        obtain ⟨c_0, c_1, c_2, c_3⟩ := HCJ.out
        go_wp2_with fail
        refine (Plan.Next_any (T : Int) (S : Int) (L : Int) G (i : Int) (k : Int) _).mono ?_
        rintro e w5 ⟨rfl, b5⟩
        have HM5 := Lib.hid (HMJ.out.later b5)
        have HP5 := Lib.hid (HPJ.out.later b5)
        have HO5 := Lib.hid (HOJ.out.then_below b5)
        have HB5 := Lib.hid (HBW.out.trans (b5.mono HBW.out.size))
        have HC5 := Lib.hid (plan4 HCJ.out (only_below (fun _ => False) b5) id)
        have HPN := Lib.hid fun W : World => Plan.Next_any (T : Int) (S : Int) (L : Int) G (i : Int) (k : Int) W
        have HOX := Lib.hid (HOT.out j l s HGJ.out hc k hkM)
        have HFT := Lib.hid (fits_get HGJ.out.fits (nextI (T : Int) (L : Int) (i : Int) (k : Int)))
        clear b5 c_0 c_1 c_2 c_3
        generalize nextI (T : Int) (L : Int) (i : Int) (k : Int) = pl at HPN HOX HFT ⊢
        have HMA := Lib.hid fun W => Refer.Marked_any (getI l pl) HFT.out.1 HFT.out.2 W
        go_wp2_with fail
        refine (Load_any HM5.out pl).mono ?_
        rintro e w6 ⟨rfl, rfl⟩
        by_cases hod : getI l pl % 2 = 1
        · rw [decide_eq_true hod] at HMA
          have HKEEP := Lib.hid (show Steps w3 pc hb nw p T S L i M n G r (j < n) j w5 from ⟨_, _, HM5.out, HP5.out, HGJ.out.wide False.elim, HO5.out⟩)
          clear hod
          go_wp2_with fail
          refine (HMA.out _).mono ?_
          rintro e w7 ⟨rfl, rfl⟩
          go_wp2_with fail
          go_meet
          case rel => exact HKEEP.out
        · rw [decide_eq_false hod] at HMA
          obtain ⟨x, hxj⟩ : ∃ x, xs[j]? = some x := ⟨_, List.getElem?_eq_getElem (by have := HN.out; omega)⟩
          have hxf := HXS.out x (List.mem_of_getElem? hxj)
          obtain ⟨b, o, rfl, hbx, hcx⟩ := int_at HRX.out (show j < xs.length by have := HN.out; omega)
          have c_x := cell_later HB5.out (hcx j x hxj)
          have HPL := Lib.hid fun W => Refer.Plain_any x hxf.1 hxf.2 W
          have HSX := Lib.hid (HOX.out hod x hxf)
          have HST := Lib.hid fun (W : World) (m : Mem W pc hb nw l) => Store_any m pl (x - x % 2)
          have HCX := Lib.hid c_x
          have hjn : (j : Int) < (n : Int) := by omega
          have HNB := Lib.hid (show ¬ w.heap.size = hb ∧ ¬ b = hb by have := HNE.out; omega)
          clear hbx hod hcx hxj hxf c_x
          generalize x - x % 2 = y at HPL HSX HST
          go_wp2_with fail
          refine (HMA.out _).mono ?_
          rintro e w7 ⟨rfl, rfl⟩
          have HS0 := Lib.hid (show (fun W : World => W.cell? ⟨w.heap.size, 0, none⟩ = some (.int .i64 (T : Int)) ∧ W.cell? ⟨w.heap.size, 1, none⟩ = some (.int .i64 (S : Int)) ∧ W.cell? ⟨w.heap.size, 2, none⟩ = some (.int .i64 (L : Int)) ∧ W.cell? ⟨w.heap.size, 3, none⟩ = some (.int .u64 G) ∧ W.cell? ⟨b, o + j, none⟩ = some (.int .u64 x)) w5.drew from ⟨HC5.out.1, HC5.out.2.1, HC5.out.2.2.1, HC5.out.2.2.2, HCX.out⟩)
          go_wp2_with fail
          go_region_held3 (fun W => W.cell? ⟨w.heap.size, 0, none⟩ = some (.int .i64 (T : Int)) ∧ W.cell? ⟨w.heap.size, 1, none⟩ = some (.int .i64 (S : Int)) ∧ W.cell? ⟨w.heap.size, 2, none⟩ = some (.int .i64 (L : Int)) ∧ W.cell? ⟨w.heap.size, 3, none⟩ = some (.int .u64 G) ∧ W.cell? ⟨b, o + j, none⟩ = some (.int .u64 x))
            ((first | (with_reducible exact HS0.out) | (with_reducible assumption) | (with_reducible exact HS8.out) | (with_reducible exact HS9.out)))
            (first
              | (go_at_call 12; refine (HPL.out _).mono ?_; rintro e w8 ⟨rfl, rfl⟩)
              | (go_at_call 9; refine (HPN.out _).mono ?_; rintro e w8 ⟨rfl, b8⟩; have HB8 := Lib.hid ((Below.refl w5.heap.size w5).drew.trans b8); have HS8 := Lib.hid (stayx HB8.out ⟨HC5.out.1, HC5.out.2.1, HC5.out.2.2.1, HC5.out.2.2.2, HCX.out⟩); clear b8)
              | (go_at_call 11; refine (HST.out _ (HM5.out.later HB8.out)).mono ?_; rintro e w9 ⟨rfl, g9, m9⟩; have HM9 := Lib.hid m9; have HG9 := Lib.hid g9; have HS9 := Lib.hid (stayg g9 HNB.out.1 HNB.out.2 HS8.out); clear g9 m9))
          all_goals go_wp2_with fail
          all_goals go_meet
          all_goals (case rel => exact ⟨_, _, HM9.out, (HP5.out.later HB8.out).only (only_grown (R := fun q => q = hb) HG9.out fun q e => by cases e; rfl) (fun e => by have := HPP.out; omega), HSX.out, (HO5.out.then_below HB8.out).trans (only_grown HG9.out fun q e => by cases e; exact .inl rfl)⟩)
    clear HMJ HPJ HGJ HOJ HBW HCJ HBB
    obtain ⟨w4, hw4⟩ : ∃ w4, w4 = wc := ⟨_, rfl⟩
    subst hw4
    obtain ⟨l, s, hm, hp, hg, ho⟩ := hcut
    have HMJ := Lib.hid hm
    have HPJ := Lib.hid hp
    have HGJ := Lib.hid hg
    have HOJ := Lib.hid ho
    have HBW := Lib.hid (show Below w.heap.size w w4 from HB3.out.trans (ho.below HB3.out.size (fun k e => by have h1 := HNE.out; have h2 := HPP.out; omega)))
    have HCJ := Lib.hid (plan4 HC3.out ho (fun e => by have h1 := HNE.out; have h2 := HPP.out; omega))
    have HNX := Lib.hid (Mark_next hp)
    unfold Mk.Told at HNX
    clear hm hp hg ho
    cases hx : markA (T : Int) (L : Int) r s with
    | none =>
      have h0 := markA_none hx
      have HALL := Lib.hid (show ∀ k : Nat, k < M → getI l (nextI (T : Int) (L : Int) (i : Int) (k : Int)) % 2 = 1 from fun k hk => HGJ.out.all h0 hk)
      have HNX2 := Lib.hid (show ∀ W, Below w4.heap.size w4 W → Calls Tryd.prog 13 #[.pointer (some ⟨p, 0, none⟩)] W (Mk.Told W none) from fun W hb => by
        have h := Mark_next (HPJ.out.later hb)
        rwa [hx] at h)
      unfold Mk.Told at HNX2
      rw [hx] at HNX
      clear hx h0
      go_wp2_with fail
      refine HNX.out.mono ?_
      rintro e w5 ⟨rfl, b5⟩
      simp only [Option.getD_none, Option.isSome_none]
      have HB5 := Lib.hid (b5.trans ((box_below w5 (.cells #[.int .i64 0, .int .i64 0, .int .u64 0, .int .u64 0, .int .u64 0] 41)).mono b5.size))
      have HN5 := Lib.hid (HNX2.out _ HB5.out)
      clear b5
      go_wp2_with fail
      refine HN5.out.mono ?_
      rintro e w6 ⟨rfl, b6⟩
      simp only [Option.getD_none, Option.isSome_none]
      have HB6 := Lib.hid (HB5.out.trans ((b6.trans ((box_below w6 (.cells #[.int .i64 0, .int .i64 0, .int .u64 0, .int .u64 0, .int .u64 0] 41)).mono b6.size)).mono HB5.out.size))
      clear b6
      go_wp2
      go_loopw [22] (fun iv wr => ∃ k : Nat, k ≤ M ∧ iv = .int .i64 k ∧ Below w4.heap.size w4 wr) (fun iv _ => M - (intOf iv).toNat)
      case atStart => exact ⟨0, Nat.zero_le _, rfl, HB6.out⟩
      case round =>
        obtain ⟨k, hk, rfl, hbi⟩ := hrel
        have HBI := Lib.hid hbi
        have HMJ2 := Lib.hid (HMJ.out.later hbi)
        have HCI := Lib.hid (plan4 HCJ.out (only_below (fun _ => False) hbi) id)
        have hk8 := HM8.out
        clear hbi
        by_cases hlt : k < M
        · have hlt2 : (k : Int) < mi := by have := HMI.out.2 (by omega); omega
          have HAK := Lib.hid (HALL.out k hlt)
          have HFT := Lib.hid (fits_get HGJ.out.fits (nextI (T : Int) (L : Int) (i : Int) (k : Int)))
          obtain ⟨c_0, c_1, c_2, c_3⟩ := HCI.out
          go_wp2_with fail
          refine (Plan.Next_any (T : Int) (S : Int) (L : Int) G (i : Int) (k : Int) _).mono ?_
          rintro e w7 ⟨rfl, b7⟩
          generalize nextI (T : Int) (L : Int) (i : Int) (k : Int) = pl at HAK HFT ⊢
          have HM7 := Lib.hid (HMJ2.out.later b7)
          have HB7 := Lib.hid (HBI.out.trans (b7.mono HBI.out.size))
          have HMA := Lib.hid fun W => Refer.Marked_any (getI l pl) HFT.out.1 HFT.out.2 W
          rw [decide_eq_true HAK.out] at HMA
          clear b7 c_0 c_1 c_2 c_3
          go_wp2_with fail
          refine (Load_any HM7.out pl).mono ?_
          rintro e w8 ⟨rfl, rfl⟩
          go_wp2_with fail
          refine (HMA.out _).mono ?_
          rintro e w8 ⟨rfl, rfl⟩
          go_wp2
          go_roundw
          case rel => exact ⟨k + 1, by omega, by go_num, HB7.out⟩
          case measure => simp [intOf]; omega
        · have hlt2 : ¬ (k : Int) < mi := by have := HMI.out.1; omega
          go_wp2_with fail
          refine (awake_any _).mono ?_
          rintro e w9 ⟨rfl, b9⟩
          go_wp2
          go_ret
          exact ⟨rfl, HBW.out.trans ((HBI.out.trans (b9.mono HBI.out.size)).mono HBW.out.size)⟩
    | some d =>
      obtain ⟨hg2, hpl, hdf⟩ := HSTEP.out j l s HGJ.out d hx
      have HG2 := Lib.hid hg2
      have HPLN := Lib.hid hpl
      rw [hx] at HNX
      clear hg2 hpl hdf hx
      go_wp2_with fail
      refine HNX.out.mono ?_
      rintro e w5 ⟨rfl, b5⟩
      simp only [Option.getD_some, Option.isSome_some]
      have HB5 := Lib.hid (b5.trans ((box_below w5 (.cells #[.int .i64 d.1, .int .i64 d.2.1, .int .u64 d.2.2.1, .int .u64 d.2.2.2.1, .int .u64 d.2.2.2.2] 41)).mono b5.size))
      have HM5 := Lib.hid (HMJ.out.later HB5.out)
      have HP5 := Lib.hid (HPJ.out.later HB5.out)
      have HO5 := Lib.hid (HOJ.out.then_below HB5.out)
      have HX5 := Lib.hid (new_heap w5 (.cells #[.int .i64 d.1, .int .i64 d.2.1, .int .u64 d.2.2.1, .int .u64 d.2.2.2.1, .int .u64 d.2.2.2.2] 41))
      have HZ5 := Lib.hid (show ¬ w5.heap.size = hb ∧ ¬ w5.heap.size = p by have h1 := HMJ.out.lt; have h2 := HPJ.out.lt; have h3 := b5.size; omega)
      clear b5
      go_wp2_with fail
      refine (Load_any HM5.out d.2.1).mono ?_
      rintro e w6 ⟨rfl, rfl⟩
      go_wp2_with fail
      refine (DeedDo.Do_any HM5.out d).mono ?_
      rintro e w6 ⟨rfl, g6, m6⟩
      have hg6 := only_grown (R := fun q => q = hb) g6 fun q e => by cases e; rfl
      have HM6 := Lib.hid m6
      have HP6 := Lib.hid (HP5.out.only hg6 (fun e => by have := HPP.out; omega))
      have HO6 := Lib.hid (HO5.out.trans (hg6.wide fun q e => .inl (.inl e)))
      have HX6 := Lib.hid (hg6.heap HX5.out HZ5.out.1)
      clear g6 m6 hg6
      go_wp2_with fail
      refine (Mark_tell HP6.out (fits_found HGJ.out.fits d)).mono ?_
      rintro e w7 ⟨rfl, p7, o7⟩
      have HM7 := Lib.hid (show Mem w7 pc hb nw (nextD l d) from ⟨HM6.out.1, HM6.out.2.1, HM6.out.2.2.1, o7.cell HM6.out.box (show ¬ pc = p by have := HPP.out; omega), o7.own HM6.out.own (fun q e => by cases e; show ¬ hb = p; have := HPP.out; omega)⟩)
      have HP7 := Lib.hid p7
      have HO7 := Lib.hid (HO6.out.trans (o7.wide fun q e => .inl (.inr e)))
      have HX7 := Lib.hid (o7.heap HX6.out HZ5.out.2)
      have HC7 := Lib.hid (plan4 HC3.out HO7.out (fun e => by have h1 := HNE.out; have h2 := HPP.out; omega))
      have HF1 := Lib.hid (fits_get HGJ.out.fits d.2.1)
      have HF2 := Lib.hid (fits_get HG2.out.fits d.2.1)
      have HPA := Lib.hid fun W => Refer.Plain_any (getI l d.2.1) HF1.out.1 HF1.out.2 W
      have HPB := Lib.hid fun W => Refer.Plain_any (getI (nextD l d) d.2.1) HF2.out.1 HF2.out.2 W
      rw [HPLN.out] at HPB
      have x1 := (cell_heap HX7.out 1).1
      have HLD := Lib.hid (Load_any HM7.out d.2.1)
      obtain ⟨l2, hl2⟩ : ∃ l2, l2 = nextD l d := ⟨_, rfl⟩
      rw [← hl2] at HM7 HLD HPB HG2
      generalize markT s (foundD l d) = s2 at HP7 HG2
      have HABV := Lib.hid (show ∀ k : Nat, k + 1 < M → getI l2 (nextI (T : Int) (L : Int) (i : Int) (k : Int)) % 2 = 1 → getI l2 (nextI (T : Int) (L : Int) (i : Int) ((k : Int) + 1)) % 2 = 1 from fun k hk h => HG2.out.above hk h)
      have HJ2 := Lib.hid (show j + 1 ≤ 217 from HG2.out.small HK100.out (by omega))
      clear p7 o7 hl2
      generalize getI l2 d.2.1 = v2 at HLD HPB
      generalize getI l d.2.1 = v1 at HPA HPB ⊢
      generalize v1 - v1 % 2 = y at HPA HPB
      go_wp2_with fail
      refine HLD.out.mono ?_
      rintro e w8 ⟨rfl, rfl⟩
      go_wp2_with fail
      refine (HPB.out _).mono ?_
      rintro e w8 ⟨rfl, rfl⟩
      go_wp2_with fail
      refine (HPA.out _).mono ?_
      rintro e w8 ⟨rfl, rfl⟩
      have hyy : (y != y) = false := by simp
      clear x1
      go_wp2
      go_loopw [19] (fun iv wr => ∃ k : Nat, k ≤ M ∧ iv = .int .i64 k ∧ Below w7.heap.size w7 wr) (fun iv _ => M - (intOf iv).toNat)
      case atStart => exact ⟨0, Nat.zero_le _, rfl, Below.refl _ _⟩
      case round =>
        obtain ⟨k, hk, rfl, hbi⟩ := hrel
        have HBI := Lib.hid hbi
        have HMI7 := Lib.hid (HM7.out.later hbi)
        have HCI := Lib.hid (plan4 HC7.out (only_below (fun _ => False) hbi) id)
        have hk8 := HM8.out
        clear hbi
        by_cases hlt : k + 1 < M
        · have hlt2 : (k : Int) + 1 < mi := by have := HMI.out.2 (by omega); omega
          have HFT := Lib.hid (fits_get HG2.out.fits (nextI (T : Int) (L : Int) (i : Int) (k : Int)))
          have HFT2 := Lib.hid (fits_get HG2.out.fits (nextI (T : Int) (L : Int) (i : Int) ((k : Int) + 1)))
          have HAB := Lib.hid (HABV.out k hlt)
          obtain ⟨c_0, c_1, c_2, c_3⟩ := HCI.out
          go_wp2_with fail
          refine (Plan.Next_any (T : Int) (S : Int) (L : Int) G (i : Int) (k : Int) _).mono ?_
          rintro e w8 ⟨rfl, b8⟩
          have HM9 := Lib.hid (HMI7.out.later b8)
          have HB8 := Lib.hid (HBI.out.trans (b8.mono HBI.out.size))
          have HC8 := Lib.hid (plan4 HCI.out (only_below (fun _ => False) b8) id)
          have HPN := Lib.hid fun W : World => Plan.Next_any (T : Int) (S : Int) (L : Int) G (i : Int) ((k : Int) + 1) W
          generalize nextI (T : Int) (L : Int) (i : Int) (k : Int) = pl at HFT HAB ⊢
          generalize nextI (T : Int) (L : Int) (i : Int) ((k : Int) + 1) = pm at HFT2 HAB HPN
          have HMA := Lib.hid fun W => Refer.Marked_any (getI l2 pl) HFT.out.1 HFT.out.2 W
          clear b8 c_0 c_1 c_2 c_3
          go_wp2_with fail
          refine (Load_any HM9.out pl).mono ?_
          rintro e w9 ⟨rfl, rfl⟩
          by_cases hod : getI l2 pl % 2 = 1
          · have HMB := Lib.hid fun W => Refer.Marked_any (getI l2 pm) HFT2.out.1 HFT2.out.2 W
            rw [decide_eq_true hod] at HMA
            rw [decide_eq_true (HAB.out hod)] at HMB
            clear hod
            obtain ⟨c_0, c_1, c_2, c_3⟩ := HC8.out
            go_wp2_with fail
            refine (HMA.out _).mono ?_
            rintro e w9 ⟨rfl, rfl⟩
            go_wp2_with fail
            refine (HPN.out _).mono ?_
            rintro e w9 ⟨rfl, b9⟩
            have HM10 := Lib.hid (HM9.out.later b9)
            have HB9 := Lib.hid (HB8.out.trans (b9.mono HB8.out.size))
            clear b9 c_0 c_1 c_2 c_3
            go_wp2_with fail
            refine (Load_any HM10.out pm).mono ?_
            rintro e w10 ⟨rfl, rfl⟩
            go_wp2_with fail
            refine (HMB.out _).mono ?_
            rintro e w10 ⟨rfl, rfl⟩
            go_wp2
            go_roundw
            case rel => exact ⟨k + 1, by omega, by go_num, HB9.out⟩
            case measure => simp [intOf]; omega
          · rw [decide_eq_false hod] at HMA
            clear hod
            go_wp2_with fail
            refine (HMA.out _).mono ?_
            rintro e w9 ⟨rfl, rfl⟩
            go_wp2
            go_roundw
            case rel => exact ⟨k + 1, by omega, by go_num, HB8.out⟩
            case measure => simp [intOf]; omega
        · have hlt2 : ¬ (k : Int) + 1 < mi := by have := HMI.out.1; omega
          have HEND := Lib.hid (show Steps w3 pc hb nw p T S L i M n G r False (j + 1) wr from ⟨_, _, HMI7.out, HP7.out.later HBI.out, HG2.out, HO7.out.then_below HBI.out⟩)
          have hj2 := HJ2.out
          go_wp2
          go_roundw
          case rel => exact ⟨j + 1, by omega, by go_num, HEND.out⟩
          case measure => simp [intOf]; omega

theorem walk (x : Int × Int × Int × Int) (i tall : Int) (A : Option Addr) (xs : List Int) (c : Nat) (_ : (Lit.int .i64 x.1).wf = true) (_ : (Lit.int .i64 x.2.1).wf = true) (_ : (Lit.int .i64 x.2.2.1).wf = true) (hg : (Lit.int .u64 x.2.2.2).wf = true) (_ : (Lit.int .i64 i).wf = true) (_ : (Lit.int .i64 tall).wf = true) (w : World)
    (hR : Row w w.heap.size A (flat (encZ .u64) xs)) (hl : xs.length ≤ maxLen) (hw : ∀ x ∈ xs, (Lit.int .u64 x).wf = true) (_ : True) :
    Calls Tryd.prog 3 #[.agg #[.int .i64 x.1, .int .i64 x.2.1, .int .i64 x.2.2.1, .int .u64 x.2.2.2], .agg #[.int .i64 i, .int .i64 tall], .slice A xs.length c] w fun e w' => e = .returned (.bool true) ∧ Below w.heap.size w w' := by
  obtain ⟨T, S, L, G⟩ := x
  simp only
  have hn : xs.length ≤ 9223372036854775807 := by unfold maxLen at hl; omega
  cases h : rightB T S L G
  · exact walk_no T S L G i tall h A xs.length c w
  · have hr := right_is h
    have hG := (wf_u64 hg).1
    obtain ⟨a, rfl⟩ := Int.eq_ofNat_of_zero_le (show 0 ≤ T by have := hr.1; omega)
    obtain ⟨b, rfl⟩ := Int.eq_ofNat_of_zero_le (show 0 ≤ S by have := hr.2.2.1; omega)
    obtain ⟨d, rfl⟩ := Int.eq_ofNat_of_zero_le (show 0 ≤ L by have := hr.2.2.2.2.1; omega)
    by_cases h0 : i < 1
    · exact walk_low a b d G i tall h hG A xs.length c hn h0 w
    · by_cases h1 : (b : Int) < i
      · exact walk_high a b d G i tall h hG A xs.length c hn h0 h1 w
      · by_cases h2 : (100 : Int) < (xs.length : Int)
        · exact walk_many a b d G i tall h hG A xs.length c hn h0 h1 h2 w
        · obtain ⟨i, rfl⟩ := Int.eq_ofNat_of_zero_le (show 0 ≤ i by omega)
          exact walk_yes a b d i G tall h hG (by omega) A xs c (by omega) (fun x hx => wf_u64 (hw x hx)) w hR
theorem laidOut : laidOutB Tryd.prog = true := by kernel_rfl
theorem own : ownKnob Tryd.prog.godebug = none := by kernel_rfl
theorem door_met (os : Os) (args : Array Value) : laidMetH Tryd.prog Rows.markAllRow.laid ((World.doorLaid Tryd.prog 400 os).forCall (fun _ _ => 0) ⟨#[], args, []⟩).memory :=
  laidMetH_of_parts3 (fuel := 8) (laidMet_of_run' 8 (by kernel_rfl) (by kernel_rfl)) (by kernel_rfl) (by kernel_rfl)
set_option maxRecDepth 100000 in
theorem lifted (os : Os) (started : os.Started) (H : Type) (enc : TypeId × Value → H) :
    ReturnsInHanded {} Tryd.checked os 3 .any (fun w args => (Rows.markAllSpec.pre enc Tryd.prog Tryd.f3 [] false w args ∧ laidMetH Tryd.prog Rows.markAllRow.laid w) ∧ sizedMet enc Tryd.prog Tryd.f3 (OpenSpec.ofChange Rows.markAllSpec) false w args) (Rows.markAllSpec.post enc Tryd.prog Tryd.f3 false true false false) := by
  refine Frame.liftedLaid (C := Tryd.checked) (fn := Tryd.f3) (tb := 4) own started (by kernel_rfl) Tryd.func3
    (ChangeSpec.witness_shaped (enc := enc) (C := Tryd.checked) (os := os) (X := fun w _ => laidMetH Tryd.prog Rows.markAllRow.laid w) false (World.doorLaid Tryd.prog 400 os) #[.agg #[.int .i64 0, .int .i64 0, .int .i64 0, .int .u64 0], .agg #[.int .i64 0, .int .i64 0], .slice none 0 0] 8 rfl (World.shaped_of_RefB (by kernel_rfl) (by kernel_rfl)) (by kernel_rfl) (by kernel_rfl) (by kernel_rfl) (door_met os _))
    rfl rfl Tryd.underlying4 laidOut (by kernel_rfl) (fun ds h => by match ds, h with | [_, _, _], _ => rfl) ?_
  intro W base args ds ps hval0 hA0 hlt hL
  have hval : ∀ (j : Nat) t v, Tryd.f3.params[j]? = some t → args[j]? = some v → Value.okWide Tryd.prog W .any base t v := hval0
  have hA : DataW.TrodAll enc Tryd.prog W 0 (fun _ => true) true Tryd.f3.params.toList args.toList ds ps := hA0
  rw [Tryd.params3] at hA hval
  obtain ⟨v0, vs0, d0, ds0, p0, q0, hargs, rfl, rfl, h0, r0⟩ := trodAll_cons hA
  obtain ⟨v1, vs1, d1, ds1, p1, q1, rfl, rfl, rfl, h1, r1⟩ := trodAll_cons r0
  obtain ⟨v2, vs2, d2, ds2, p2, q2, rfl, rfl, rfl, h2, r2⟩ := trodAll_cons r1
  obtain ⟨rfl, rfl, rfl⟩ := trodAll_nil r2
  obtain rfl : args = #[v0, v1, v2] := by cases args; simp_all
  obtain ⟨x0, rfl, w0_0, w0_1, w0_2, w0_3⟩ := Open.open_four_ints Tryd.underlying24 (by kernel_rfl) (by kernel_rfl) Tryd.underlying3 Tryd.underlying3 Tryd.underlying3 Tryd.underlying22 (hval 0 24 v0 rfl rfl) h0
  obtain ⟨z1, l1, rfl, g1⟩ := Frame.open_int_array Tryd.underlying25 Tryd.underlying3 (by kernel_rfl) (by kernel_rfl) (hval 1 25 v1 rfl rfl) h1
  obtain ⟨a1_0, a1_1, rfl, w1_0, w1_1⟩ := Frame.two_of l1 g1
  obtain ⟨A2, x2, c2, rfl, b2, m2, R2, g2⟩ := Open.open_rows (k := 1) (Ints.encZ .u64) (fun x => (Lit.int .u64 x).wf = true) Tryd.underlying26 (by kernel_rfl) (by decide) (Ints.encZ_length _) (fun n cs y h hl => Ints.one_int Tryd.underlying22 n cs y h hl) (hval 2 26 v2 rfl rfl) h2
  refine (walk x0 a1_0 a1_1 A2 x2 c2 w0_0 w0_1 w0_2 w0_3 w1_0 w1_1 W R2 (Nat.le_trans b2 m2) g2 (held hL)).mono fun e W' h => ?_
  exact h

theorem over : Rows.markAllRow.holds Tryd.pinned (OpenSpec.ofChange Rows.markAllSpec) :=
  OpenClaim.holds_of_wide 3 Tryd.f3 rfl rfl rfl rfl rfl rfl rfl ⟨rfl, rfl, rfl, rfl, rfl⟩ rfl rfl rfl rfl rfl (by kernel_rfl) Tryd.func3 (by kernel_rfl)
    (of_decide_eq_true (by kernel_rfl)) (by unfold Func.isWrapper; first | (rw [if_pos (by decide +kernel)]; kernel_rfl) | (rw [if_neg (by decide +kernel)]; exact ⟨rfl, rfl⟩))
    (fun os started H enc _ => lifted os started H enc)

theorem proved : Rows.MarkAllCardSaid :=
  Claim7.holds_tied_plain_at .later [] Rows.markAllCard.laidKinds true Rows.markAllCard.stood.harness Rows.markAllCard.stood.looks
    over (fun _ h => by cases h) (by kernel_rfl) (fun _ h => by cases h) markAll_row_tie rfl ⟨rfl, rfl⟩ (by kernel_rfl) rfl
    (fun f fn hf hfn => by
      obtain rfl : f = 3 := Option.some.inj ((show Tryd.prog.funcNamed Rows.markAllRow.func = some 3 by kernel_rfl).symm.trans hf) |>.symm
      obtain rfl : fn = Tryd.f3 := (Option.some.inj (Tryd.func3.symm.trans hfn)).symm
      exact ⟨by kernel_rfl, fun j t ht => by
        rw [Tryd.params3] at ht
        have hm : t ∈ [24, 25, 26] := by simpa using Array.mem_of_getElem? ht
        have hall : ([24, 25, 26].all fun u => !Tryd.prog.wantsStandIn u) = true := by kernel_rfl
        exact (show Tryd.prog.wantsStandIn t = false by simpa using List.all_eq_true.1 hall t hm)⟩)
    (by kernel_rfl)
#print axioms proved
end Go.Proofs.YtpefngpmbladeaaDoor.MarkAll

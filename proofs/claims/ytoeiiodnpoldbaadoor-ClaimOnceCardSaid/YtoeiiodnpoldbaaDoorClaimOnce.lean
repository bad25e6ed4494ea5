/- ClaimOnce: for every plan that is right, all states of its slots, and every list of at most 100 references, claimers of which each goes behind the other take each slot's timer just where it is live, of the reference's generation, and not yet taken; the states of what was taken are turned into taken, all others stay (of another plan, or of more references, just the chapter's example is asked); and that example comes out; the arguments read as they did. Condition: the library's listed tables hold what its own text lays in them (tied by the card). -/
import Derived.Test.YtoeiiodnpoldbaaDoorClaimOut
import Derived.Test.YtoeiiodnpoldbaaDoorClaimOnceMath
import Derived.Test.YtoeiiodnpoldbaaDoorDeedDo
import Derived.Test.YtoeiiodnpoldbaaDoorBlankWalks
import Derived.Test.YtoeiiodnpoldbaaDoorBools
import Derived.Deep.RegionHeld3
import Derived.Deep.DeepCutAuto
import Derived.Test.YtoeiiodnpoldbaaDoorFour
import Derived.Test.YtoeiiodnpoldbaaDoorFrame
import Derived.Test.YtoeiiodnpoldbaaDoorFrameLaid
import Derived.Test.YtoeiiodnpoldbaaDoorTie
import Derived.Test.YtoeiiodnpoldbaaDoorCards
namespace Go.Proofs.YtoeiiodnpoldbaaDoor.ClaimOnce
set_option maxRecDepth 20000
open Go.ChangeShapes Go.WideShapes Go.ChangeAt Go.RowKit CM DM PM KM ClM BM MM Runs Lay Plan Ints Bools Go.Proofs.YtoeiiodnpoldbaaDoor.Task
open Go.Proofs.YtoeiiodnpoldbaaDoor.ClaimOut
open Go.Proofs.YtoeiiodnpoldbaaDoor.Cells (Mem Does Store_any Load_any)
open Go.Proofs.YtoeiiodnpoldbaaDoor.Clm (Claims Claim_any Claim_next Claim_tell Won_cell)
open Go.Proofs.YtoeiiodnpoldbaaDoor.Law24 (plan4 awake_any wf_u64 wf_i64)
set_option linter.unusedVariables false
set_option linter.unusedSimpArgs false
theorem held {W : World} (h : laidMetH Tryd.prog Rows.claimOnceRow.laid W) : True := trivial
theorem infoBool : (Tryd.prog.info? 4).map (fun i => (i.zero, i.size, i.bytes)) = some (some (.bool false), 1, 1) := by kernel_rfl
theorem stayx {w W W' : World} {T S L b o : Nat} {G x : Int} (hb : Below W.heap.size W W') (h : W.cell? ⟨w.heap.size, 0, none⟩ = some (.int .i64 (T : Int)) ∧ W.cell? ⟨w.heap.size, 1, none⟩ = some (.int .i64 (S : Int)) ∧ W.cell? ⟨w.heap.size, 2, none⟩ = some (.int .i64 (L : Int)) ∧ W.cell? ⟨w.heap.size, 3, none⟩ = some (.int .u64 G) ∧ W.cell? ⟨b, o, none⟩ = some (.int .u64 x)) : (fun W : World => W.cell? ⟨w.heap.size, 0, none⟩ = some (.int .i64 (T : Int)) ∧ W.cell? ⟨w.heap.size, 1, none⟩ = some (.int .i64 (S : Int)) ∧ W.cell? ⟨w.heap.size, 2, none⟩ = some (.int .i64 (L : Int)) ∧ W.cell? ⟨w.heap.size, 3, none⟩ = some (.int .u64 G) ∧ W.cell? ⟨b, o, none⟩ = some (.int .u64 x)) W' :=
  ⟨cell_later hb h.1, cell_later hb h.2.1, cell_later hb h.2.2.1, cell_later hb h.2.2.2.1, cell_later hb h.2.2.2.2⟩
theorem stayg {w W W' : World} {T S L b o hb : Nat} {G x : Int} (hg : W.grownBy W' (some hb)) (h1 : ¬ w.heap.size = hb) (h2 : ¬ b = hb) (h : W.cell? ⟨w.heap.size, 0, none⟩ = some (.int .i64 (T : Int)) ∧ W.cell? ⟨w.heap.size, 1, none⟩ = some (.int .i64 (S : Int)) ∧ W.cell? ⟨w.heap.size, 2, none⟩ = some (.int .i64 (L : Int)) ∧ W.cell? ⟨w.heap.size, 3, none⟩ = some (.int .u64 G) ∧ W.cell? ⟨b, o, none⟩ = some (.int .u64 x)) : (fun W : World => W.cell? ⟨w.heap.size, 0, none⟩ = some (.int .i64 (T : Int)) ∧ W.cell? ⟨w.heap.size, 1, none⟩ = some (.int .i64 (S : Int)) ∧ W.cell? ⟨w.heap.size, 2, none⟩ = some (.int .i64 (L : Int)) ∧ W.cell? ⟨w.heap.size, 3, none⟩ = some (.int .u64 G) ∧ W.cell? ⟨b, o, none⟩ = some (.int .u64 x)) W' := by
  have ho := only_grown (R := fun q => q = hb) hg fun q e => by cases e; rfl
  exact ⟨ho.cell h.1 h1, ho.cell h.2.1 h1, ho.cell h.2.2.1 h1, ho.cell h.2.2.2.1 h1, ho.cell h.2.2.2.2 h2⟩
/-- Amid the claimers. -/
def Amid (w3 : World) (pc h nw bt B m T S L : Nat) (zs : List Int) (wr : World) : Prop :=
  ∃ l tk, Mem wr pc h nw l ∧ Once T S L zs tk l ∧ wr.ownsRow B 4 1 (.slice (some ⟨bt, 0, none⟩) m m) m (flat encB tk) ∧ Only (fun b => b = h ∨ b = bt) w3 wr
set_option maxHeartbeats 4000000 in
theorem walk_yes (T S L : Nat) (G : Int) (zs : List Int) (hz : zs.length = 64) (hzf : ∀ z ∈ zs, 0 ≤ z ∧ z < 18446744073709551616) (hr : rightB (T : Int) (S : Int) (L : Int) G = true) (hG : 0 ≤ G) (A : Option Addr) (xs : List Int) (c : Nat) (hl : xs.length ≤ 100) (hx : ∀ x ∈ xs, 0 ≤ x ∧ x < 18446744073709551616) (w : World) (hR : Row w w.heap.size A (flat (encZ .u64) xs)) : Calls Tryd.prog 3 #[.agg #[.int .i64 (T : Int), .int .i64 (S : Int), .int .i64 (L : Int), .int .u64 G], .agg (zs.map (Value.int .u64)).toArray, .slice A xs.length c] w fun e w' => e = .returned (.bool true) ∧ Below w.heap.size w w' := by
  obtain ⟨t1, t8, s1, s64, l1, l8⟩ := Blank.right_nat hr
  obtain ⟨n, hn⟩ : ∃ n, n = xs.length := ⟨_, rfl⟩
  rw [← hn] at hl ⊢
  have HZF := Lib.hid (show ∀ j : Nat, 0 ≤ zs[j]?.getD 0 ∧ zs[j]?.getD 0 < 18446744073709551616 from fun j => by
    cases hj : zs[j]? with
    | none => exact ⟨by simp, by simp⟩
    | some z => exact hzf z (List.mem_of_getElem? hj))
  have HEP := Lib.hid (fun j (hj : j < S) => ep_at (w := w) (T := (T : Int)) (S := (S : Int)) (L := (L : Int)) (G := G) (zs := zs) (show j < zs.length by omega))
  have HTS := Lib.hid (And.intro t8 (And.intro s64 l8))
  have HN := Lib.hid hn
  have HRX := Lib.hid hR
  have HXS := Lib.hid hx
  have HR := Lib.hid hr
  have HG := Lib.hid hG
  have HC := Lib.hid (plan_in w (T : Int) (S : Int) (L : Int) G zs)
  have HB0 := Lib.hid (two_boxes w (T : Int) (S : Int) (L : Int) G zs)
  have hn1 : ¬ (100 : Int) < (n : Int) := by omega
  have HK100 := Lib.hid hl
  have hEPN : (zs.map (Value.int .u64)).length = 64 := by rw [List.length_map]; exact hz
  obtain ⟨i0, hi, hz0, hz1, hz2⟩ := info_parts infoBool
  obtain ⟨l0, hl0⟩ : ∃ l0, l0 = layL (wordsN T S L) (T : Int) (S : Int) (L : Int) (SM.stI G 0) S := ⟨_, rfl⟩
  have HL0 := Lib.hid (show Stored T S L zs 0 l0 from hl0 ▸ Stored.start (lay_length _ _ _ _ _ _) (fits_lay _ _ _ ⟨SM.stI_lo _ _, SM.stI_hi _ _⟩ (by omega) _))
  obtain ⟨c_0, c_1, c_2, c_3⟩ := HC.out
  clear hr hG hn hR hx hl t1 t8 s1 s64 l1 l8 hzf hz
  go_enter Tryd.func3, Tryd.ntmps3
  go_wp2_with fail
  refine (Blank.Make_yes HR.out HG.out _).mono ?_
  rintro e1 w1 ⟨pc, h, rfl, m1, p1, h1, b1⟩
  obtain ⟨nw, hnw⟩ : ∃ nw, nw = wordsN T S L := ⟨_, rfl⟩
  rw [← hl0, ← hnw] at m1
  have HNE := Lib.hid (show w.heap.size + 1 < pc ∧ w.heap.size + 1 < h by simp at p1 h1; omega)
  have HB1 := Lib.hid (HB0.out.trans (b1.mono HB0.out.size))
  have HC1 := Lib.hid (plan4 HC.out (only_below (fun _ => False) b1) id)
  have HE1 := Lib.hid (show ∀ j, j < S → w1.cell? ⟨w.heap.size + 1, j, none⟩ = some (.int .u64 (zs[j]?.getD 0)) from fun j hj => (only_below (fun _ => False) b1).cell (HEP.out j hj) id)
  have HM1 := Lib.hid m1
  have HPH := Lib.hid m1.lt
  clear m1 p1 h1 b1 c_0 c_1 c_2 c_3 hl0 hnw
  obtain ⟨c_0, c_1, c_2, c_3⟩ := HC1.out
  go_wp2
  clear c_0 c_1 c_2 c_3
  go_loopw [9] (fun iv wr => ∃ k : Nat, k ≤ S ∧ iv = .int .i64 ((k : Int) + 1) ∧ (∃ l, Mem wr pc h nw l ∧ Stored T S L zs k l) ∧ Only (fun b => b = h) w1 wr) (fun iv _ => S + 1 - (intOf iv).toNat)
  case atStart => exact ⟨0, Nat.zero_le _, rfl, ⟨_, HM1.out, HL0.out⟩, Only.refl _ _⟩
  case round =>
    obtain ⟨k, hk, rfl, ⟨l, hm, hs⟩, ho⟩ := hrel
    have HMK := Lib.hid hm
    have HSK := Lib.hid hs
    have HOK := Lib.hid ho
    have HCK := Lib.hid (plan4 HC1.out ho (by have := HNE.out; omega))
    clear hm hs ho
    obtain ⟨c_0, c_1, c_2, c_3⟩ := HCK.out
    by_cases hlt : k < S
    · have hk1 : (k : Int) + 1 ≤ (S : Int) := by omega
      have hk64 : (k : Int) < 64 := by have := HTS.out; omega
      have hk0 : (0 : Int) ≤ (k : Int) := by omega
      have hkw : IntKind.i64.wrap (k : Int) = (k : Int) := by rw [IntKind.wrap_i64]; omega
      have c_4 := HOK.out.cell (HE1.out k hlt) (show ¬ w.heap.size + 1 = h by have := HNE.out; omega)
      have HST := Lib.hid (HSK.out.step HTS.out.1 HTS.out.2.1 HTS.out.2.2 hlt (HZF.out k))
      have HPS := Lib.hid fun W : World => Plan.State_any (T : Int) (S : Int) (L : Int) G ((k : Int) + 1) W
      generalize atI (T : Int) (L : Int) ((k : Int) + 1) 0 = pl at HST HPS
      have HZK := Lib.hid (HZF.out k)
      generalize zs[k]?.getD 0 = z at HST c_4 HZK
      have HSA := Lib.hid fun (W : World) (m : Mem W pc h nw l) => Store_any m pl z
      have HS0 := Lib.hid (show (fun W : World => W.cell? ⟨w.heap.size, 0, none⟩ = some (.int .i64 (T : Int)) ∧ W.cell? ⟨w.heap.size, 1, none⟩ = some (.int .i64 (S : Int)) ∧ W.cell? ⟨w.heap.size, 2, none⟩ = some (.int .i64 (L : Int)) ∧ W.cell? ⟨w.heap.size, 3, none⟩ = some (.int .u64 G) ∧ W.cell? ⟨w.heap.size + 1, k, none⟩ = some (.int .u64 z)) wr.drew from ⟨c_0, c_1, c_2, c_3, c_4⟩)
      have HNB := Lib.hid (show ¬ w.heap.size = h ∧ ¬ w.heap.size + 1 = h by have := HNE.out; omega)
      go_wp2_with fail
      go_region_held3 (fun W => W.cell? ⟨w.heap.size, 0, none⟩ = some (.int .i64 (T : Int)) ∧ W.cell? ⟨w.heap.size, 1, none⟩ = some (.int .i64 (S : Int)) ∧ W.cell? ⟨w.heap.size, 2, none⟩ = some (.int .i64 (L : Int)) ∧ W.cell? ⟨w.heap.size, 3, none⟩ = some (.int .u64 G) ∧ W.cell? ⟨w.heap.size + 1, k, none⟩ = some (.int .u64 z))
        ((first | (with_reducible exact HS0.out) | (with_reducible assumption) | (with_reducible exact HS8.out) | (with_reducible exact HS9.out)))
        (first
          | (go_at_call 7; refine (HPS.out _).mono ?_; rintro e w8 ⟨rfl, b8⟩; have HB8 := Lib.hid ((Below.refl wr.heap.size wr).drew.trans b8); have HS8 := Lib.hid (stayx HB8.out ⟨HS0.out.1, HS0.out.2.1, HS0.out.2.2.1, HS0.out.2.2.2.1, HS0.out.2.2.2.2⟩); clear b8)
          | (go_at_call 6; refine (HSA.out _ (HMK.out.later HB8.out)).mono ?_; rintro e w9 ⟨rfl, g9, m9⟩; have HM9 := Lib.hid m9; have HG9 := Lib.hid g9; have HS9 := Lib.hid (stayg g9 HNB.out.1 HNB.out.2 HS8.out); clear g9 m9))
      have HK9 := Lib.hid (show (∃ l, Mem w9 pc h nw l ∧ Stored T S L zs (k + 1) l) ∧ Only (fun b => b = h) w1 w9 from ⟨⟨_, HM9.out, HST.out⟩, (HOK.out.then_below HB8.out).trans (only_grown (R := fun b => b = h) HG9.out fun q e => by cases e; rfl)⟩)
      clear c_0 c_1 c_2 c_3 c_4
      go_wp2
      go_roundw
      case rel => exact ⟨k + 1, hlt, by go_num, HK9.out.1, HK9.out.2⟩
      case measure => simp [intOf]; omega
    · have hkS : S = k := by omega
      subst hkS
      obtain ⟨m, hm⟩ : ∃ m : Nat, (S : Int) + 1 = (m : Int) := ⟨S + 1, by simp⟩
      have HMS := Lib.hid (show m = S + 1 by omega)
      have hmw : IntKind.i64.wrap (m : Int) = (m : Int) := by rw [IntKind.wrap_i64]; have := HTS.out; omega
      have hm65 : m ≤ 65 := by have := HTS.out; omega
      have HB4 := Lib.hid (show Below w.heap.size w wr from HB1.out.trans (HOK.out.below HB1.out.size (fun q e => by subst e; have := HNE.out; omega)))
      have HLT := Lib.hid HMK.out.lt
      go_wp2_with (first
        | (at_make; refine wpList_make_full _ rfl (.tmp 49) (.tmp 49) 34 rfl w1.heap.size 4 i0 _ 1 Tryd.underlying34 hi hz0 hz1 _ _ _ _ m rfl rfl rfl rfl (by rw [hz2]; omega) (by simp only [maxLen]; omega) (HOK.out.size) ?_; intro w5 hown hg5; rw [made_bools] at hown; have HO5 := Lib.hid hown; have HG5 := Lib.hid (only_grown (R := fun _ => False) hg5 fun q e => by cases e); clear hown hg5))
      obtain ⟨bt, hbt⟩ : ∃ bt, bt = wr.heap.size := ⟨_, rfl⟩
      rw [← hbt] at HO5 ⊢
      have HBT := Lib.hid (show pc < bt ∧ h < bt ∧ w.heap.size + 1 < bt ∧ w1.heap.size ≤ bt by have h1 := HLT.out; have h2 := HNE.out; have h3 := HOK.out.size; omega)
      have HB5 := Lib.hid (HB4.out.trans (HG5.out.below HB4.out.size (fun q e => e.elim)))
      have HC5 := Lib.hid (plan4 HCK.out HG5.out id)
      have HE5 := Lib.hid (show ∀ j, j < S → w5.cell? ⟨w.heap.size + 1, j, none⟩ = some (.int .u64 (zs[j]?.getD 0)) from fun j hj => HG5.out.cell (HOK.out.cell (HE1.out j hj) (show ¬ w.heap.size + 1 = h by have := HNE.out; omega)) id)
      have H5 := Lib.hid (show Amid w5 pc h nw bt w1.heap.size m T S L zs w5 from ⟨l, _, ⟨HMK.out.1, HMK.out.2.1, HMK.out.2.2.1, HG5.out.cell HMK.out.box id, HG5.out.own HMK.out.own (fun _ _ => id)⟩, HMS.out ▸ HSK.out.once, HO5.out, Only.refl _ _⟩)
      clear c_0 c_1 c_2 c_3 hbt hm hmw
      clear HMK HSK HOK HCK HO5 HG5 HLT HB4
      go_loopw [11] (fun iv wr2 => ∃ k : Nat, k ≤ n ∧ iv = .int .i64 k ∧ Amid w5 pc h nw bt w1.heap.size m T S L zs wr2) (fun iv _ => n - (intOf iv).toNat)
      case atStart => exact ⟨0, Nat.zero_le _, rfl, H5.out⟩
      case round =>
        obtain ⟨k, hk, rfl, l, tk, hm, hs, hw, ho⟩ := hrel
        have HMK := Lib.hid hm
        have HSK := Lib.hid hs
        have HWK := Lib.hid hw
        have HOK := Lib.hid ho
        have HCK := Lib.hid (plan4 HC5.out ho (by have := HNE.out; have := HBT.out; omega))
        have HBW := Lib.hid (show Below w.heap.size w wr from HB5.out.trans (ho.below HB5.out.size (fun q e => by have := HNE.out; have := HBT.out; omega)))
        clear hm hs hw ho
        by_cases hlt : k < n
        · obtain ⟨r, hr⟩ : ∃ r, xs[k]? = some r := ⟨_, List.getElem?_eq_getElem (by have := HN.out; omega)⟩
          have hrw := HXS.out r (List.mem_of_getElem? hr)
          obtain ⟨b, o, rfl, hbx, hcx⟩ := int_at HRX.out (show k < xs.length by have := HN.out; omega)
          have c_r := cell_later HBW.out (hcx k r hr)
          have HCR := Lib.hid c_r
          have HRW := Lib.hid hrw
          have HIX := Lib.hid fun W => Refer.Index_any r hrw.1 hrw.2 W
          rw [show r % 4294967296 / 2 = idx r from rfl] at HIX
          have HCL := Lib.hid fun W => Claim_any (T : Int) (S : Int) (L : Int) G r hrw W
          have hkn : (k : Int) < (n : Int) := by omega
          have hk0 : (0 : Int) ≤ (k : Int) := by omega
          have HNB := Lib.hid (show b < w.heap.size ∧ ¬ b = h ∧ ¬ b = bt by have := HNE.out; have := HBT.out; omega)
          clear hbx hcx hr hrw
          go_wp2_with fail
          refine (HIX.out _).mono ?_
          rintro e w6 ⟨rfl, rfl⟩
          obtain ⟨c_0, c_1, c_2, c_3⟩ := HCK.out
          go_upto_region 13 with fail
          go_cut [13] (fun s13 wx => ∃ p, s13 = .pointer (some ⟨p, 0, none⟩) ∧ Claims wx p (T : Int) (S : Int) (L : Int) G r ⟨false, false⟩ ∧ wr.heap.size ≤ p ∧ Below wr.heap.size wr wx)
          case first =>
            have HS0 := Lib.hid (show (fun W : World => W.cell? ⟨w.heap.size, 0, none⟩ = some (.int .i64 (T : Int)) ∧ W.cell? ⟨w.heap.size, 1, none⟩ = some (.int .i64 (S : Int)) ∧ W.cell? ⟨w.heap.size, 2, none⟩ = some (.int .i64 (L : Int)) ∧ W.cell? ⟨w.heap.size, 3, none⟩ = some (.int .u64 G) ∧ W.cell? ⟨b, o + k, none⟩ = some (.int .u64 r)) wr.drew from ⟨HCK.out.1, HCK.out.2.1, HCK.out.2.2.1, HCK.out.2.2.2, HCR.out⟩)
            go_region_held3 (fun W => W.cell? ⟨w.heap.size, 0, none⟩ = some (.int .i64 (T : Int)) ∧ W.cell? ⟨w.heap.size, 1, none⟩ = some (.int .i64 (S : Int)) ∧ W.cell? ⟨w.heap.size, 2, none⟩ = some (.int .i64 (L : Int)) ∧ W.cell? ⟨w.heap.size, 3, none⟩ = some (.int .u64 G) ∧ W.cell? ⟨b, o + k, none⟩ = some (.int .u64 r))
              ((first | (with_reducible exact HS0.out) | (with_reducible assumption) | (with_reducible exact HS6.out)))
              ((go_at_call 9; refine (HCL.out _).mono ?_; rintro e w6 ⟨p, rfl, m6, p6, b6⟩; have HQ6 := Lib.hid m6; have HP6 := Lib.hid p6; have HB6 := Lib.hid ((Below.refl wr.heap.size wr).drew.trans b6); have HS6 := Lib.hid (stayx (b := b) (o := o + k) (x := r) HB6.out ⟨HCK.out.1, HCK.out.2.1, HCK.out.2.2.1, HCK.out.2.2.2, HCR.out⟩); clear m6 p6 b6))
            all_goals go_wp2_with fail
            all_goals go_meet
            all_goals (case rel => exact ⟨_, rfl, HQ6.out, HP6.out, HB6.out⟩)
          obtain ⟨p, rfl, m6, p6, b6⟩ := hcut
          obtain ⟨w6, hw6⟩ : ∃ w6, w6 = wc := ⟨_, rfl⟩
          subst hw6
          have HP6 := Lib.hid m6
          have HM6 := Lib.hid (HMK.out.later b6)
          have HB6 := Lib.hid b6
          have HPW := Lib.hid (show w5.heap.size ≤ p from Nat.le_trans HOK.out.size p6)
          have HPP := Lib.hid (show pc < p ∧ h < p ∧ bt < p by have h1 := HMK.out.lt; have h2 := (HWK.out.lt bt rfl).2; omega)
          obtain ⟨d, hd⟩ : ∃ d, d = claimD (T : Int) (L : Int) r := ⟨_, rfl⟩
          have HD := Lib.hid hd
          have HNX := Lib.hid (show Calls Tryd.prog 10 #[.pointer (some ⟨p, 0, none⟩)] w6 (Clm.Told w6 (some d)) from by
            have h := Claim_next m6
            rwa [claimA_is, ← hd] at h)
          clear m6 p6 b6 hd c_0 c_1 c_2 c_3 c_r
          go_wp2_with fail
          refine HNX.out.mono ?_
          rintro e w7 ⟨rfl, b7⟩
          simp only [Option.getD_some, Option.isSome_some]
          have HB7 := Lib.hid (b7.trans ((box_below w7 (.cells #[.int .i64 d.1, .int .i64 d.2.1, .int .u64 d.2.2.1, .int .u64 d.2.2.2.1, .int .u64 d.2.2.2.2] 39)).mono b7.size))
          have HM7 := Lib.hid (HM6.out.later HB7.out)
          have HP7 := Lib.hid (HP6.out.later HB7.out)
          clear b7
          go_wp2_with fail
          refine (DeedDo.Do_any HM7.out d).mono ?_
          rintro e w8 ⟨rfl, g8, m8⟩
          have hg8 := only_grown (R := fun q => q = h) g8 fun q e => by cases e; rfl
          have HM8 := Lib.hid m8
          have HG8 := Lib.hid hg8
          have HP8 := Lib.hid (HP7.out.only hg8 (fun e => by have := HPP.out; omega))
          clear g8 m8 hg8
          go_wp2_with fail
          refine (Claim_tell HP8.out (fits_found HSK.out.fits d)).mono ?_
          rintro e w9 ⟨rfl, p9, o9⟩
          rw [claimT_new] at p9
          have HP9 := Lib.hid p9
          have HM9 := Lib.hid (show Mem w9 pc h nw (nextD l d) from ⟨HM8.out.1, HM8.out.2.1, HM8.out.2.2.1, o9.cell HM8.out.box (show ¬ pc = p by have := HPP.out; omega), o9.own HM8.out.own (fun q e => by cases e; show ¬ h = p; have := HPP.out; omega)⟩)
          have HO9 := Lib.hid (show Only (fun q => q = h ∨ q = p) wr w9 from (((only_below (fun q => q = h ∨ q = p) HB6.out).then_below HB7.out).trans (HG8.out.wide fun q e => .inl (.inl e))).trans (o9.wide fun q e => .inl (.inr e)))
          clear p9 o9
          have HC9 := Lib.hid (plan4 HCK.out HO9.out (by have := HNE.out; have := HMK.out.lt; have := HPP.out; omega))
          have HR9 := Lib.hid (HO9.out.cell HCR.out (show ¬ (b = h ∨ b = p) by have := HNB.out; have := HBT.out; have := HNE.out; have := HPP.out; omega))
          have HW9 := Lib.hid (HO9.out.own HWK.out (fun q e => by cases e; show ¬ (bt = h ∨ bt = p); have := HBT.out; have := HPP.out; omega))
          have HE9 := Lib.hid (show ∀ j, j < S → w9.cell? ⟨w.heap.size + 1, j, none⟩ = some (.int .u64 (zs[j]?.getD 0)) from fun j hj => HO9.out.cell (HOK.out.cell (HE5.out j hj) (show ¬ (w.heap.size + 1 = h ∨ w.heap.size + 1 = bt) by have := HNE.out; have := HBT.out; omega)) (show ¬ (w.heap.size + 1 = h ∨ w.heap.size + 1 = p) by have := HNE.out; have := HBT.out; have := HPP.out; omega))
          have HO5 := Lib.hid (show Only (fun q => q = h ∨ q = bt) w5 w9 from HOK.out.more HO9.out fun q e => by have h1 := HPP.out; have h2 := HBT.out; have h3 := (HWK.out.lt bt rfl).2; have h4 := HP9.out.lt; have h5 := HOK.out.size; have h6 := HMK.out.lt; rcases e with e | e; exact .inl (.inl e); exact .inr (by have := HPW.out; omega))
          generalize hix : idx r = ix
          have HIXE := Lib.hid hix
          clear hix HIX HCL HNX HM6 HP6 HB6 HB7 HM7 HP7 HM8 HP8 HG8 HMK HWK HCR HCK HO9
          by_cases hin : 1 ≤ ix ∧ ix ≤ (S : Int)
          · obtain ⟨j, hj⟩ : ∃ j : Nat, ix = (j : Int) + 1 := ⟨(ix - 1).toNat, by omega⟩
            subst hj
            have hjS : j < S := by omega
            have h1 : (1 : Int) ≤ (j : Int) + 1 := hin.1
            have h2 : (j : Int) + 1 ≤ (S : Int) := hin.2
            have h3 : ¬ (S : Int) < (j : Int) + 1 := by omega
            have h4 : ¬ (j : Int) + 1 < 1 := by omega
            have hj64 : (j : Int) < 64 := by have := HTS.out; omega
            have hj0 : (0 : Int) ≤ (j : Int) := by omega
            have hj1 : (0 : Int) ≤ (j : Int) + 1 := by omega
            have hjm : (j : Int) + 1 < (m : Int) := by have := HMS.out; omega
            have hjw : IntKind.i64.wrap (j : Int) = (j : Int) := by rw [IntKind.wrap_i64]; omega
            have c_1 := HC9.out.2.1
            have c_z := HE9.out j hjS
            clear hin
            obtain ⟨tb, htb⟩ : ∃ tb, tk[j + 1]? = some tb := ⟨_, List.getElem?_eq_getElem (by rw [HSK.out.row]; omega)⟩
            obtain ⟨c_t, f_t⟩ := own_bool_at HW9.out (by rw [HSK.out.row, HMS.out]) htb
            have HTB := Lib.hid htb
            cases tb with
            | true =>
              obtain ⟨q1, q2⟩ := HSK.out.taken HTS.out.1 HTS.out.2.1 HTS.out.2.2 HRW.out HIXE.out hjS htb
              rw [← HD.out] at q1 q2
              rw [q1] at HP9
              have HQ2 := Lib.hid q2
              clear q1 q2 htb
              go_upto_region 16 with fail
              go_cut [16] (fun s16 wx => s16 = .bool false ∧ wx = w9.drew)
              case first =>
                go_region
                all_goals go_wp2_with fail
                all_goals go_meet
                all_goals (case rel => exact ⟨rfl, rfl⟩)
              obtain ⟨rfl, rfl⟩ := hcut
              have HBD := Lib.hid ((Below.refl w9.heap.size w9).drew)
              have HM10 := Lib.hid (HM9.out.later HBD.out)
              have HW10 := Lib.hid (own_later HW9.out HBD.out)
              have HC10 := Lib.hid (plan4 HC9.out (only_below (fun _ => False) HBD.out) id)
              have HO10 := Lib.hid (HO5.out.then_below HBD.out)
              have HWN := Lib.hid (show Calls Tryd.prog 15 #[.pointer (some ⟨p, 0, none⟩)] w9.drew fun e w' => e = .returned (.bool false) ∧ w9.drew = w' from Won_cell (HP9.out.later HBD.out).1.cells.2.2.2.2.2.2.2)
              clear c_1 c_z c_t f_t HR9 HE9 HM9 HP9 HC9 HW9 HO5 HBD 
              generalize w9.drew = w10 at HM10 HW10 HC10 HO10 HWN ⊢
              obtain ⟨c_0, c_1, c_2, c_3⟩ := HC10.out
              obtain ⟨c_t, f_t⟩ := own_bool_at HW10.out (by rw [HSK.out.row, HMS.out]) HTB.out
              have HSET := Lib.hid (show Amid w5 pc h nw bt w1.heap.size m T S L zs (w10.setCell ⟨bt, j + 1, none⟩ (.bool true)) from
                have ho := only_setCell (R := fun q => q = bt) w10 (p := ⟨bt, j + 1, none⟩) rfl (.bool true)
                ⟨_, _, ⟨HM10.out.1, HM10.out.2.1, HM10.out.2.2.1, ho.cell HM10.out.box (show ¬ pc = bt by have := HBT.out; omega), ho.own HM10.out.own (fun q e => by cases e; show ¬ h = bt; have := HBT.out; omega)⟩, HQ2.out, own_bool_set HW10.out (j + 1) true, HO10.out.trans (ho.wide fun q e => .inl (.inr e))⟩)
              go_wp2_with fail
              refine HWN.out.mono ?_
              rintro e w11 ⟨rfl, rfl⟩
              go_wp2
              go_roundw
              case rel => exact ⟨k + 1, hlt, by go_num, HSET.out⟩
              case measure => simp [intOf]; omega
            | false =>
              obtain ⟨q1, q2⟩ := HSK.out.free HTS.out.1 HTS.out.2.1 HTS.out.2.2 HRW.out HIXE.out hjS htb
              rw [← HD.out] at q1 q2
              rw [q1] at HP9
              have HZJ := Lib.hid (HZF.out j)
              have HGN := Lib.hid fun W => Refer.Gen_any r HRW.out.1 HRW.out.2 W
              rw [show r / 4294967296 = genI r from rfl] at HGN
              have HSO := Lib.hid fun W => State.Of_any (genI r) 2 (gen_ok HRW.out).1 W
              have HGK := Lib.hid (gen_ok HRW.out)
              generalize genI r = g at HGN HSO HP9 q2 HGK
              generalize SM.stI g 2 = y at HSO HP9 q2
              generalize zs[j]?.getD 0 = z at c_z HP9 q2 HZJ
              obtain ⟨lv, hlv⟩ : ∃ lv, lv = decide (z = y) := ⟨_, rfl⟩
              rw [← hlv] at HP9 q2
              have HLV := Lib.hid hlv
              have HQ2 := Lib.hid q2
              have c_r := HR9.out
              clear q1 q2 htb hlv
              go_upto_region 16 with fail
              go_cut [16] (fun s16 wx => s16 = .bool lv ∧ wx = w9.drew)
              case first =>
                have hzy : (z == y) = lv := by rw [HLV.out]; rfl
                have HS0 := Lib.hid (show (fun W : World => W.cell? ⟨w.heap.size, 1, none⟩ = some (.int .i64 (S : Int)) ∧ W.cell? ⟨w.heap.size + 1, j, none⟩ = some (.int .u64 z) ∧ W.cell? ⟨bt, j + 1, none⟩ = some (.bool false) ∧ W.cell? ⟨b, o + k, none⟩ = some (.int .u64 r)) w9.drew from ⟨c_1, c_z, c_t, c_r⟩)
                have g0 := HGK.out.1
                have g1 := HGK.out.2
                go_region_held3 (fun W => W.cell? ⟨w.heap.size, 1, none⟩ = some (.int .i64 (S : Int)) ∧ W.cell? ⟨w.heap.size + 1, j, none⟩ = some (.int .u64 z) ∧ W.cell? ⟨bt, j + 1, none⟩ = some (.bool false) ∧ W.cell? ⟨b, o + k, none⟩ = some (.int .u64 r))
                  ((first | (with_reducible exact HS0.out) | (with_reducible assumption)))
                  (first
                    | (go_at_call 14; refine (HGN.out _).mono ?_; rintro e w10 ⟨rfl, rfl⟩)
                    | (go_at_call 13; refine (HSO.out _).mono ?_; rintro e w10 ⟨rfl, rfl⟩))
                all_goals go_wp2_with fail
                all_goals go_meet
                all_goals (case rel => exact ⟨rfl, rfl⟩)
              obtain ⟨rfl, rfl⟩ := hcut
              have hll : (lv != lv) = false := by simp
              clear HZJ HLV
              have HBD := Lib.hid ((Below.refl w9.heap.size w9).drew)
              have HM10 := Lib.hid (HM9.out.later HBD.out)
              have HW10 := Lib.hid (own_later HW9.out HBD.out)
              have HC10 := Lib.hid (plan4 HC9.out (only_below (fun _ => False) HBD.out) id)
              have HO10 := Lib.hid (HO5.out.then_below HBD.out)
              have HWN := Lib.hid (show Calls Tryd.prog 15 #[.pointer (some ⟨p, 0, none⟩)] w9.drew fun e w' => e = .returned (.bool lv) ∧ w9.drew = w' from Won_cell (HP9.out.later HBD.out).1.cells.2.2.2.2.2.2.2)
              clear c_1 c_z c_t f_t HR9 HE9 HM9 HP9 HC9 HW9 HO5 HBD c_r
              generalize w9.drew = w10 at HM10 HW10 HC10 HO10 HWN ⊢
              obtain ⟨c_0, c_1, c_2, c_3⟩ := HC10.out
              obtain ⟨c_t, f_t⟩ := own_bool_at HW10.out (by rw [HSK.out.row, HMS.out]) HTB.out
              have HSET := Lib.hid (show Amid w5 pc h nw bt w1.heap.size m T S L zs (w10.setCell ⟨bt, j + 1, none⟩ (.bool lv)) from
                have ho := only_setCell (R := fun q => q = bt) w10 (p := ⟨bt, j + 1, none⟩) rfl (.bool lv)
                ⟨_, _, ⟨HM10.out.1, HM10.out.2.1, HM10.out.2.2.1, ho.cell HM10.out.box (show ¬ pc = bt by have := HBT.out; omega), ho.own HM10.out.own (fun q e => by cases e; show ¬ h = bt; have := HBT.out; omega)⟩, HQ2.out, own_bool_set HW10.out (j + 1) lv, HO10.out.trans (ho.wide fun q e => .inl (.inr e))⟩)
              go_wp2_with fail
              refine HWN.out.mono ?_
              rintro e w11 ⟨rfl, rfl⟩
              go_wp2
              go_roundw
              case rel => exact ⟨k + 1, hlt, by go_num, HSET.out⟩
              case measure => simp [intOf]; omega
          · have HQ2 := Lib.hid (show Once T S L zs tk (nextD l d) from by
              rw [HD.out]
              exact HSK.out.out HTS.out.1 HTS.out.2.1 HTS.out.2.2 HRW.out (by rw [HIXE.out]; exact hin))
            have c_1 := HC9.out.2.1
            have HBD := Lib.hid ((Below.refl w9.heap.size w9).drew)
            have HK10 := Lib.hid (show Amid w5 pc h nw bt w1.heap.size m T S L zs w9.drew from ⟨_, _, HM9.out.later HBD.out, HQ2.out, own_later HW9.out HBD.out, HO5.out.then_below HBD.out⟩)
            have HC10 := Lib.hid (plan4 HC9.out (only_below (fun _ => False) HBD.out) id)
            clear HR9 HE9 HM9 HP9 HC9 HW9 HO5 HBD HIXE HSK
            by_cases hlow : ix < 1
            · have h1 : decide ((1 : Int) ≤ ix) = false := decide_eq_false (by omega)
              have h2 : ¬ (S : Int) < ix := by omega
              clear hin
              go_upto_region 16 with fail
              go_cut [16] (fun s16 wx => s16 = .bool false ∧ wx = w9.drew)
              case first =>
                go_region
                all_goals go_wp2_with fail
                all_goals go_meet
                all_goals (case rel => exact ⟨rfl, rfl⟩)
              obtain ⟨rfl, rfl⟩ := hcut
              clear c_1
              generalize w9.drew = w10 at HK10 HC10 ⊢
              obtain ⟨c_0, c_1, c_2, c_3⟩ := HC10.out
              go_wp2
              go_roundw
              case rel => exact ⟨k + 1, hlt, by go_num, HK10.out⟩
              case measure => simp [intOf]; omega
            · have h1 : (1 : Int) ≤ ix := by omega
              have h2 : decide (ix ≤ (S : Int)) = false := decide_eq_false (by omega)
              have h3 : (S : Int) < ix := by omega
              clear hin
              go_upto_region 16 with fail
              go_cut [16] (fun s16 wx => s16 = .bool false ∧ wx = w9.drew)
              case first =>
                go_region
                all_goals go_wp2_with fail
                all_goals go_meet
                all_goals (case rel => exact ⟨rfl, rfl⟩)
              obtain ⟨rfl, rfl⟩ := hcut
              clear c_1
              generalize w9.drew = w10 at HK10 HC10 ⊢
              obtain ⟨c_0, c_1, c_2, c_3⟩ := HC10.out
              go_wp2
              go_roundw
              case rel => exact ⟨k + 1, hlt, by go_num, HK10.out⟩
              case measure => simp [intOf]; omega
        · have hkn : ¬ (k : Int) < (n : Int) := by omega
          have HEK := Lib.hid (show ∀ j, j < S → wr.cell? ⟨w.heap.size + 1, j, none⟩ = some (.int .u64 (zs[j]?.getD 0)) from fun j hj => HOK.out.cell (HE5.out j hj) (show ¬ (w.heap.size + 1 = h ∨ w.heap.size + 1 = bt) by have := HNE.out; have := HBT.out; omega))
          go_wp2
          go_loopw [17] (fun iv wr2 => ∃ j : Nat, j ≤ S ∧ iv = .int .i64 ((j : Int) + 1) ∧ Below wr.heap.size wr wr2) (fun iv _ => S + 1 - (intOf iv).toNat)
          case atStart => exact ⟨0, Nat.zero_le _, rfl, Below.refl _ _⟩
          case round =>
            rename_i w20
            obtain ⟨j, hj, rfl, hb⟩ := hrel
            have HBJ := Lib.hid hb
            have HCJ := Lib.hid (plan4 HCK.out (only_below (fun _ => False) hb) id)
            have HMJ := Lib.hid (HMK.out.later hb)
            obtain ⟨c_0, c_1, c_2, c_3⟩ := HCJ.out
            clear hb
            by_cases hjS : j < S
            · have hat := HSK.out.at_j hjS
              have hj64 : (j : Int) < 64 := by have := HTS.out; omega
              have hj0 : (0 : Int) ≤ (j : Int) := by omega
              have hjw : IntKind.i64.wrap (j : Int) = (j : Int) := by rw [IntKind.wrap_i64]; omega
              have hj1 : (j : Int) + 1 ≤ (S : Int) := by omega
              have hjm : (j : Int) + 1 < (m : Int) := by have := HMS.out; omega
              have hjp : (0 : Int) ≤ (j : Int) + 1 := by omega
              obtain ⟨tb, htb⟩ : ∃ tb, tk[j + 1]? = some tb := ⟨_, List.getElem?_eq_getElem (by rw [HSK.out.row]; omega)⟩
              have htd : tk.getD (j + 1) false = tb := by rw [List.getD_eq_getElem?_getD, htb]; rfl
              rw [htd] at hat
              have HTB := Lib.hid htb
              have HAT := Lib.hid hat
              have HZJ := Lib.hid (HZF.out j)
              have c_z := cell_later HBJ.out (HEK.out j hjS)
              have HCZ := Lib.hid c_z
              clear htb htd hat c_z
              generalize zs[j]?.getD 0 = z at HAT HZJ HCZ
              go_wp2_with fail
              refine (Plan.State_any (T : Int) (S : Int) (L : Int) G ((j : Int) + 1) _).mono ?_
              rintro e w21 ⟨rfl, b21⟩
              have HM21 := Lib.hid (HMJ.out.later b21)
              have HB21 := Lib.hid (HBJ.out.trans (b21.mono HBJ.out.size))
              have c_z := cell_later b21 HCZ.out
              obtain ⟨c_t, f_t⟩ := own_bool_at (own_later HWK.out HB21.out) (by rw [HSK.out.row, HMS.out]) HTB.out
              clear b21 c_0 c_1 c_2 c_3
              generalize atI (T : Int) (L : Int) ((j : Int) + 1) 0 = pl at HAT ⊢
              have HLD := Lib.hid (Load_any HM21.out pl)
              obtain ⟨c_0, c_1, c_2, c_3⟩ := plan4 HCK.out (only_below (fun _ => False) HB21.out) id
              cases tb with
              | true =>
                rw [HAT.out, if_pos rfl] at HLD
                have hz0 := HZJ.out.1
                have hz1 := HZJ.out.2
                have HGN := Lib.hid fun W => State.Gen_any z hz0 hz1 W
                have hv0 : 0 ≤ z / 4294967296 := by omega
                have HSO := Lib.hid fun W => State.Of_any (z / 4294967296) 3 hv0 W
                generalize z / 4294967296 = v at HGN HSO HLD hv0
                generalize SM.stI v 3 = y at HSO HLD
                have hyy : (y != y) = false := by simp
                clear hz0 hz1
                go_wp2_with fail
                refine HLD.out.mono ?_
                rintro e w22 ⟨rfl, rfl⟩
                go_wp2_with fail
                refine (HGN.out _).mono ?_
                rintro e w22 ⟨rfl, rfl⟩
                go_wp2_with fail
                refine (HSO.out _).mono ?_
                rintro e w22 ⟨rfl, rfl⟩
                go_wp2
                go_roundw
                case rel => exact ⟨j + 1, hjS, by go_num, HB21.out⟩
                case measure => simp [intOf]; omega
              | false =>
                rw [HAT.out, if_neg (by decide)] at HLD
                have hyy : (z != z) = false := by simp
                go_wp2_with fail
                refine HLD.out.mono ?_
                rintro e w22 ⟨rfl, rfl⟩
                go_wp2
                go_roundw
                case rel => exact ⟨j + 1, hjS, by go_num, HB21.out⟩
                case measure => simp [intOf]; omega
            · have hj1 : ¬ (j : Int) + 1 ≤ (S : Int) := by omega
              go_wp2_with fail
              refine (awake_any _).mono ?_
              rintro e w21 ⟨rfl, b21⟩
              go_wp2
              go_ret
              exact ⟨rfl, HBW.out.trans ((HBJ.out.trans (b21.mono HBJ.out.size)).mono HBW.out.size)⟩
theorem walk (x : Int × Int × Int × Int) (zs : List Int) (A : Option Addr) (xs : List Int) (c : Nat) (_ : (Lit.int .i64 x.1).wf = true) (_ : (Lit.int .i64 x.2.1).wf = true) (_ : (Lit.int .i64 x.2.2.1).wf = true) (hg : (Lit.int .u64 x.2.2.2).wf = true) (hz : zs.length = 64) (hzf : ∀ z ∈ zs, (Lit.int .u64 z).wf = true) (w : World)
    (hR : Row w w.heap.size A (flat (encZ .u64) xs)) (hl : xs.length ≤ maxLen) (hw : ∀ x ∈ xs, (Lit.int .u64 x).wf = true) (_ : True) :
    Calls Tryd.prog 3 #[.agg #[.int .i64 x.1, .int .i64 x.2.1, .int .i64 x.2.2.1, .int .u64 x.2.2.2], .agg (zs.map (Value.int .u64)).toArray, .slice A xs.length c] w fun e w' => e = .returned (.bool true) ∧ Below w.heap.size w w' := by
  obtain ⟨T, S, L, G⟩ := x
  simp only
  cases h : rightB T S L G
  · exact walk_no T S L G zs h A xs.length c w
  · have hr := right_is h
    have hG := (wf_u64 hg).1
    obtain ⟨a, rfl⟩ := Int.eq_ofNat_of_zero_le (show 0 ≤ T by have := hr.1; omega)
    obtain ⟨b, rfl⟩ := Int.eq_ofNat_of_zero_le (show 0 ≤ S by have := hr.2.2.1; omega)
    obtain ⟨d, rfl⟩ := Int.eq_ofNat_of_zero_le (show 0 ≤ L by have := hr.2.2.2.2.1; omega)
    unfold maxLen at hl
    by_cases h2 : xs.length ≤ 100
    · exact walk_yes a b d G zs hz (fun z h => wf_u64 (hzf z h)) h hG A xs c h2 (fun x h => wf_u64 (hw x h)) w hR
    · exact walk_many a b d G zs h hG A xs.length c (by omega) (by omega) w
theorem laidOut : laidOutB Tryd.prog = true := by kernel_rfl
theorem own : ownKnob Tryd.prog.godebug = none := by kernel_rfl
theorem door_met (os : Os) (args : Array Value) : laidMetH Tryd.prog Rows.claimOnceRow.laid ((World.doorLaid Tryd.prog 400 os).forCall (fun _ _ => 0) ⟨#[], args, []⟩).memory :=
  laidMetH_of_parts3 (fuel := 8) (laidMet_of_run' 8 (by kernel_rfl) (by kernel_rfl)) (by kernel_rfl) (by kernel_rfl)
set_option maxRecDepth 100000 in
theorem lifted (os : Os) (started : os.Started) (H : Type) (enc : TypeId × Value → H) :
    ReturnsInHanded {} Tryd.checked os 3 .any (fun w args => (Rows.claimOnceSpec.pre enc Tryd.prog Tryd.f3 [] false w args ∧ laidMetH Tryd.prog Rows.claimOnceRow.laid w) ∧ sizedMet enc Tryd.prog Tryd.f3 (OpenSpec.ofChange Rows.claimOnceSpec) false w args) (Rows.claimOnceSpec.post enc Tryd.prog Tryd.f3 false true false false) := by
  refine Frame.liftedLaid (C := Tryd.checked) (fn := Tryd.f3) (tb := 4) own started (by kernel_rfl) Tryd.func3
    (ChangeSpec.witness_shaped (enc := enc) (C := Tryd.checked) (os := os) (X := fun w _ => laidMetH Tryd.prog Rows.claimOnceRow.laid w) false (World.doorLaid Tryd.prog 400 os) #[.agg #[.int .i64 0, .int .i64 0, .int .i64 0, .int .u64 0], .agg #[.int .u64 0, .int .u64 0, .int .u64 0, .int .u64 0, .int .u64 0, .int .u64 0, .int .u64 0, .int .u64 0, .int .u64 0, .int .u64 0, .int .u64 0, .int .u64 0, .int .u64 0, .int .u64 0, .int .u64 0, .int .u64 0, .int .u64 0, .int .u64 0, .int .u64 0, .int .u64 0, .int .u64 0, .int .u64 0, .int .u64 0, .int .u64 0, .int .u64 0, .int .u64 0, .int .u64 0, .int .u64 0, .int .u64 0, .int .u64 0, .int .u64 0, .int .u64 0, .int .u64 0, .int .u64 0, .int .u64 0, .int .u64 0, .int .u64 0, .int .u64 0, .int .u64 0, .int .u64 0, .int .u64 0, .int .u64 0, .int .u64 0, .int .u64 0, .int .u64 0, .int .u64 0, .int .u64 0, .int .u64 0, .int .u64 0, .int .u64 0, .int .u64 0, .int .u64 0, .int .u64 0, .int .u64 0, .int .u64 0, .int .u64 0, .int .u64 0, .int .u64 0, .int .u64 0, .int .u64 0, .int .u64 0, .int .u64 0, .int .u64 0, .int .u64 0], .slice none 0 0] 8 rfl (World.shaped_of_RefB (by kernel_rfl) (by kernel_rfl)) (by kernel_rfl) (by kernel_rfl) (by kernel_rfl) (door_met os _))
    rfl rfl Tryd.underlying4 laidOut (by kernel_rfl) (fun ds h => by match ds, h with | [_, _, _], _ => rfl) ?_
  intro W base args ds ps hval0 hA0 hlt hL
  have hval : ∀ (j : Nat) t v, Tryd.f3.params[j]? = some t → args[j]? = some v → Value.okWide Tryd.prog W .any base t v := hval0
  have hA : DataW.TrodAll enc Tryd.prog W 0 (fun _ => true) true Tryd.f3.params.toList args.toList ds ps := hA0
  rw [Tryd.params3] at hA hval
  obtain ⟨v0, vs0, d0, ds0, p0, q0, hargs, rfl, rfl, h0, r0⟩ := trodAll_cons hA
  obtain ⟨v1, vs1, d1, ds1, p1, q1, rfl, rfl, rfl, h1, r1⟩ := trodAll_cons r0
  obtain ⟨v2, vs2, d2, ds2, p2, q2, rfl, rfl, rfl, h2, r2⟩ := trodAll_cons r1
  obtain ⟨rfl, rfl, rfl⟩ := trodAll_nil r2
  obtain rfl : args = #[v0, v1, v2] := by cases args; simp_all
  obtain ⟨x0, rfl, w0_0, w0_1, w0_2, w0_3⟩ := Open.open_four_ints Tryd.underlying24 (by kernel_rfl) (by kernel_rfl) Tryd.underlying3 Tryd.underlying3 Tryd.underlying3 Tryd.underlying22 (hval 0 24 v0 rfl rfl) h0
  obtain ⟨z1, l1, rfl, g1⟩ := Frame.open_int_array Tryd.underlying25 Tryd.underlying22 (by kernel_rfl) (by kernel_rfl) (hval 1 25 v1 rfl rfl) h1
  obtain ⟨A2, x2, c2, rfl, b2, m2, R2, g2⟩ := Open.open_rows (k := 1) (Ints.encZ .u64) (fun x => (Lit.int .u64 x).wf = true) Tryd.underlying26 (by kernel_rfl) (by decide) (Ints.encZ_length _) (fun n cs y h hl => Ints.one_int Tryd.underlying22 n cs y h hl) (hval 2 26 v2 rfl rfl) h2
  refine (walk x0 z1 A2 x2 c2 w0_0 w0_1 w0_2 w0_3 l1 g1 W R2 (Nat.le_trans b2 m2) g2 (held hL)).mono fun e W' h => ?_
  exact h

theorem over : Rows.claimOnceRow.holds Tryd.pinned (OpenSpec.ofChange Rows.claimOnceSpec) :=
  OpenClaim.holds_of_wide 3 Tryd.f3 rfl rfl rfl rfl rfl rfl rfl ⟨rfl, rfl, rfl, rfl, rfl⟩ rfl rfl rfl rfl rfl (by kernel_rfl) Tryd.func3 (by kernel_rfl)
    (of_decide_eq_true (by kernel_rfl)) (by unfold Func.isWrapper; first | (rw [if_pos (by decide +kernel)]; kernel_rfl) | (rw [if_neg (by decide +kernel)]; exact ⟨rfl, rfl⟩))
    (fun os started H enc _ => lifted os started H enc)

theorem proved : Rows.ClaimOnceCardSaid :=
  Claim7.holds_tied_plain_at .later [] Rows.claimOnceCard.laidKinds true Rows.claimOnceCard.stood.harness Rows.claimOnceCard.stood.looks
    over (fun _ h => by cases h) (by kernel_rfl) (fun _ h => by cases h) claimOnce_row_tie rfl ⟨rfl, rfl⟩ (by kernel_rfl) rfl
    (fun f fn hf hfn => by
      obtain rfl : f = 3 := Option.some.inj ((show Tryd.prog.funcNamed Rows.claimOnceRow.func = some 3 by kernel_rfl).symm.trans hf) |>.symm
      obtain rfl : fn = Tryd.f3 := (Option.some.inj (Tryd.func3.symm.trans hfn)).symm
      exact ⟨by kernel_rfl, fun j t ht => by
        rw [Tryd.params3] at ht
        have hm : t ∈ [24, 25, 26] := by simpa using Array.mem_of_getElem? ht
        have hall : ([24, 25, 26].all fun u => !Tryd.prog.wantsStandIn u) = true := by kernel_rfl
        exact (show Tryd.prog.wantsStandIn t = false by simpa using List.all_eq_true.1 hall t hm)⟩)
    (by kernel_rfl)
#print axioms proved
end Go.Proofs.YtoeiiodnpoldbaaDoor.ClaimOnce

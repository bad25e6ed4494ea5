import Derived.Test.YtafjokjmogadnaaGreatDoorCollectFreesAllP24
import Derived.Test.YtafjokjmogadnaaGreatDoorCollectFreesAllP25
import Derived.Test.YtafjokjmogadnaaGreatDoorCollectFreesAllP26
import Derived.Test.YtafjokjmogadnaaGreatDoorCollectFreesAllP27
import Derived.Test.YtafjokjmogadnaaGreatDoorCollectFreesAllP29
/- Law 17's example; a collector that is done alone, step by step. -/
namespace Go.Proofs.YtafjokjmogadnaaGreatDoor.Law17
set_option maxRecDepth 20000
open Go.ChangeShapes Go.WideShapes Go.ChangeAt Go.RowKit CM DM PM GiM CoM LM BM Runs Lay Plan Ints Limbo CoFill Go.Proofs.YtafjokjmogadnaaGreatDoor.Collect
open Go.Proofs.YtafjokjmogadnaaGreatDoor.Cells (Mem Does Store_any)
open Go.Proofs.YtafjokjmogadnaaGreatDoor.Task (res5 set5)
set_option linter.unusedVariables false
set_option linter.unusedSimpArgs false

theorem wf_u64 {a : Int} (h : (Lit.int .u64 a).wf = true) : 0 ≤ a ∧ a < 18446744073709551616 := by
  simp [Lit.wf, IntKind.min, IntKind.max, IntKind.signed, IntKind.bits] at h; omega
theorem plan4 {w w' : World} {N : Nat} {R : Nat → Prop} {T S L G : Int} (h : w.cell? ⟨N, 0, none⟩ = some (.int .i64 T) ∧ w.cell? ⟨N, 1, none⟩ = some (.int .i64 S) ∧ w.cell? ⟨N, 2, none⟩ = some (.int .i64 L) ∧ w.cell? ⟨N, 3, none⟩ = some (.int .u64 G)) (ho : Only R w w') (hr : ¬ R N) :
    w'.cell? ⟨N, 0, none⟩ = some (.int .i64 T) ∧ w'.cell? ⟨N, 1, none⟩ = some (.int .i64 S) ∧ w'.cell? ⟨N, 2, none⟩ = some (.int .i64 L) ∧ w'.cell? ⟨N, 3, none⟩ = some (.int .u64 G) :=
  ⟨ho.cell h.1 hr, ho.cell h.2.1 hr, ho.cell h.2.2.1 hr, ho.cell h.2.2.2 hr⟩
theorem mem_only {w w' : World} {p h n : Nat} {l : List Int} {R : Nat → Prop} (hm : Mem w p h n l) (ho : Only R w w') (h1 : ¬ R p) (h2 : ¬ R h) : Mem w' p h n l :=
  ⟨hm.1, hm.2.1, hm.2.2.1, ho.cell hm.box h1, ho.own hm.own (fun k e => by cases e; exact h2)⟩
theorem col_fits {T L : Int} {s : CoM.St} {d : DM.D} (hs : CoM.Ok T L s) (h : colA T L s = some d) : DM.Fits d := by
  cases s with
  | look =>
    cases h
    unfold DM.Fits
    decide
  | «at» c o =>
    cases o with
    | none => cases h
    | some z =>
      obtain ⟨r, s, rs⟩ := z
      exact giveA_fits (word_lo _) hs.1 h

theorem Colls.ok {w : World} {p l : Nat} {S SL : Nat → Prop} {T N L G : Int} {LL : Ls} {s : CoM.St} (h : Colls w p l S SL T N L G LL s) : CoM.Ok T L s := by
  obtain ⟨hs, nv, k, A, n, c, h⟩ := h
  exact h.ok
/-- Amid: j of the K steps are done; w1 is the world in which the memory was made. -/
def Loop (w1 : World) (pc h n q l : Nat) (T N L G : Int) (LL : Ls) (lf : List Int) (sf : CoM.St) (K j : Nat) (wr : World) : Prop :=
  ∃ lw s Q QL, j ≤ K ∧ Mem wr pc h n lw ∧ BM.Fits lw ∧ Colls wr q l Q QL T N L G LL s ∧ (∀ k, Q k → w1.heap.size ≤ k) ∧ (∀ k, QL k → w1.heap.size ≤ k) ∧ steps (colA T L) (colT T L LL) (K - j) lw s = some (lf, sf) ∧ Only (fun k => k = h) w1 wr
/-- One step more. -/
theorem loop_told {w1 wr w4 w5 w6 : World} {pc h n q l K j : Nat} {T N L G : Int} {LL : Ls} {lf lw : List Int} {sf s : CoM.St} {Q QL : Nat → Prop} {d : DM.D} (hph : pc < w1.heap.size ∧ h < w1.heap.size) (hj : j < K) (hf : BM.Fits lw) (hQ : ∀ k, Q k → w1.heap.size ≤ k) (hQL : ∀ k, QL k → w1.heap.size ≤ k) (hok : CoM.Ok T L s) (hx : colA T L s = some d)
    (hst : steps (colA T L) (colT T L LL) (K - (j + 1)) (nextD lw d) (colT T L LL s (foundD lw d)) = some (lf, sf)) (ho : Only (fun k => k = h) w1 wr) (hb : Below wr.heap.size wr w4) (hg : Only (fun k => k = h) w4 w5) (hm : Mem w5 pc h n (nextD lw d)) (hB : Became w5.heap.size Q QL q l T N L G LL (colT T L LL s (foundD lw d)) w5 w6) :
    Loop w1 pc h n q l T N L G LL lf sf K (j + 1) w6 := by
  obtain ⟨Q', QL', h1, h2, h3, h4⟩ := hB
  have ho5 := (ho.then_below hb).trans hg
  have hs5 := ho5.size
  exact ⟨_, _, Q', QL', by omega, mem_only hm h2 (fun e => e.elim (fun e => by have := hQ _ e; omega) (fun e => by have := hQL _ e; omega)) (fun e => e.elim (fun e => by have := hQ _ e; omega) (fun e => by have := hQL _ e; omega)), PoM.fits_next hf (col_fits hok hx), h1, fun k e => (h3 k e).elim (hQ k) (fun e => by omega), fun k e => (h4 k e).elim (hQL k) (fun e => by omega), hst,
    ho5.more h2 fun k e => .inr (e.elim (hQ k) (hQL k))⟩

def exX (j : Nat) : Int := if j = 1 then 5 else 4
theorem ex_lst : lst 0 exX 3 = [(2, 4), (4, 5), (6, 4)] := by decide
theorem ex_row (w : World) (b : Nat) (hb : b = w.heap.size) (t : TypeId) : Row (w.alloc (.cells #[.int .u64 2, .int .u64 4, .int .u64 4, .int .u64 5, .int .u64 6, .int .u64 4] t)) (w.alloc (.cells #[.int .u64 2, .int .u64 4, .int .u64 4, .int .u64 5, .int .u64 6, .int .u64 4] t)).heap.size (some ⟨b, 0, none⟩) (flat encR (lst 0 exX 3)) := by
  rw [ex_lst]
  exact hb ▸ Cells.row_new w #[.int .u64 2, .int .u64 4, .int .u64 4, .int .u64 5, .int .u64 6, .int .u64 4] t
theorem ex_of (i : Int) (v : Int) (hv : RM.ofI 0 i = v) (w : World) : Calls Tryz.prog 20 #[.int .u64 0, .int .i64 i] w fun e w' => e = .returned (.int .u64 v) ∧ w = w' := hv ▸ Refer.Of_any 0 i (by decide) w
theorem ex_make (w : World) : Calls Tryz.prog 16 #[.agg #[.int .i64 1, .int .i64 3, .int .i64 1, .int .u64 0]] w fun e w' => ∃ p h n l, e = .returned (.tuple #[.pointer (some ⟨p, 0, none⟩), .int .i64 0]) ∧ Mem w' p h n l ∧ BM.Fits l ∧ l.length = wordsN 1 3 1 ∧ w.heap.size ≤ p ∧ w.heap.size ≤ h ∧ Below w.heap.size w w' := by
  refine (Blank.Make_yes (T := 1) (S := 3) (L := 1) (G := 0) (by decide) (by decide) w).mono ?_
  rintro e w' ⟨p, h, he, hm, h1, h2, hb⟩
  exact ⟨p, h, _, _, he, hm, BM.fits_lay _ _ _ ⟨SM.stI_lo _ _, SM.stI_hi _ _⟩ (by omega) _, BM.lay_length _ _ _ _ _ _, h1, h2, hb⟩
theorem ex_steps {l : List Int} (hl : l.length = wordsN 1 3 1) : ∃ lf, steps (colA 1 1) (colT 1 1 (fillL (lst 0 exX 3))) 9 (setI (setI l 0 6) 3 0) .look = some (lf, .at 6 none) ∧ freeL 1 3 1 lf = [3, 1] := by
  obtain ⟨h1, h2, h3, h4⟩ := free_all (G := 0) (now := 6) (X := exX) (S := 3) (by decide) (by decide) (fun j => by unfold exX; split <;> decide)
  have e : freeR 0 6 exX 3 = [3, 1] := by decide
  have e2 : (ripes (fillL (lst 0 exX 3)) 6).length = 2 := by decide
  obtain ⟨lf, q1, q2⟩ := all_steps (T := 1) (S := 3) (L := 1) (by decide) (by decide) (by decide) (fillL (lst 0 exX 3)) 6 (setI (setI l 0 6) 3 0) [] (by rw [get_other (by decide)]; exact get_set (by unfold there; rw [hl]; decide) 6) h4 (by show getI _ 3 % 4294967296 = 0; rw [get_set (by unfold there; rw [setI_length, hl]; decide)]; rfl) (by rw [List.append_nil]; exact h3) (by rw [setI_length, setI_length]; exact hl)
  rw [e2] at q1
  rw [List.append_nil] at q2
  exact ⟨lf, q1, q2.trans e⟩
theorem ex_free {p h n : Nat} {l : List Int} {w : World} (hM : Mem w p h n l) (hF : BM.Fits l) (he : freeL 1 3 1 l = [3, 1]) : Calls Tryz.prog 22 #[.pointer (some ⟨p, 0, none⟩), .agg #[.int .i64 1, .int .i64 3, .int .i64 1, .int .u64 0]] w fun e w' =>
    ∃ b o c, e = .returned (.slice (some ⟨b, o, none⟩) 2 c) ∧ w'.cell? ⟨b, o, none⟩ = some (.int .i64 3) ∧ w'.cell? ⟨b, o + 1, none⟩ = some (.int .i64 1) ∧ Below w.heap.size w w' := by
  refine (Blank.Free_yes (T := 1) (S := 3) (L := 1) (G := 0) (by decide) hM hF).mono ?_
  rintro e w' ⟨A, c, rfl, hR, hb⟩
  have he2 : freeL ((1 : Nat) : Int) 3 ((1 : Nat) : Int) l = [3, 1] := he
  rw [he2] at hR ⊢
  obtain ⟨b, o, rfl, hlt, hc⟩ := int_at hR (show 0 < [(3 : Int), 1].length by decide)
  exact ⟨b, o, c, rfl, by simpa using hc 0 3 rfl, by simpa using hc 1 1 rfl, hb⟩
set_option maxHeartbeats 2000000 in
theorem awake_any (w : World) : Calls Tryz.prog 5 #[] w fun e w' => e = .returned (.bool true) ∧ Below w.heap.size w w' := by
  have HC := Lib.hid (box4 w (.int .i64 1) (.int .i64 3) (.int .i64 1) (.int .u64 0) 24)
  have HB0 := Lib.hid (box_below w (.cells #[.int .i64 1, .int .i64 3, .int .i64 1, .int .u64 0] 24))
  go_enter Tryz.func5, Tryz.ntmps5
  go_wp2_with fail
  refine (ex_make _).mono ?_
  rintro e w1 ⟨p, h, n, l0, rfl, m1, f1, l1, p1, h1, b1⟩
  have HNE := Lib.hid (show w.heap.size < p ∧ w.heap.size < h ∧ ¬ w.heap.size = h by simp at p1 h1; omega)
  have HPH := Lib.hid m1.lt
  have HM1 := Lib.hid m1
  have HF1 := Lib.hid (And.intro f1 l1)
  have HC1 := Lib.hid (plan4 HC.out (only_below (fun _ => False) b1) id)
  have HB1 := Lib.hid (HB0.out.trans (b1.mono HB0.out.size))
  clear m1 p1 h1 b1 f1 l1
  go_wp2_with fail
  refine (Store_any HM1.out 0 6).mono ?_
  rintro e2 w2 ⟨rfl, g2, m2⟩
  have HO2 := Lib.hid (only_grown (R := fun k => k = h) g2 fun k e => by cases e; rfl)
  have HM2 := Lib.hid m2
  clear m2 g2
  go_wp2_with fail
  refine (Store_any HM2.out 3 0).mono ?_
  rintro e3 w3 ⟨rfl, g3, m3⟩
  have HO3 := Lib.hid (HO2.out.trans (only_grown (R := fun k => k = h) g3 fun k e => by cases e; rfl))
  have HM3 := Lib.hid m3
  obtain ⟨lf, hs1, hs2⟩ := ex_steps HF1.out.2
  have HST := Lib.hid (And.intro hs1 hs2)
  have HFT := Lib.hid (BM.fits_set (BM.fits_set HF1.out.1 0 (show (0:Int) ≤ 6 ∧ (6:Int) < 18446744073709551616 by decide)) 3 (show (0:Int) ≤ 0 ∧ (0:Int) < 18446744073709551616 by decide))
  clear m3 g3 hs1 hs2
  go_wp2_with fail
  refine (ex_of 1 2 (by decide) _).mono ?_
  rintro e w' ⟨rfl, rfl⟩
  go_wp2_with fail
  refine (ex_of 2 4 (by decide) _).mono ?_
  rintro e w' ⟨rfl, rfl⟩
  go_wp2_with fail
  refine (ex_of 3 6 (by decide) _).mono ?_
  rintro e w' ⟨rfl, rfl⟩
  go_wp2_with fail
  refine (Fill_any (l := lst 0 exX 3) (ex_row _ _ rfl _) (by decide) (by decide) (by decide)).mono ?_
  rintro e w4 ⟨l, SL, rfl, hL, hSL, b4⟩
  have HB34 := Lib.hid ((box_below w3 (.cells #[.int .u64 2, .int .u64 4, .int .u64 4, .int .u64 5, .int .u64 6, .int .u64 4] 63)).trans (b4.mono (by simp)))
  have HO4 := Lib.hid (HO3.out.then_below HB34.out)
  have HM4 := Lib.hid (HM3.out.later HB34.out)
  have HL4 := Lib.hid (And.intro hL (show ∀ k, SL k → w1.heap.size ≤ k from fun k e => by have h1 := hSL k e; have h2 := HO3.out.size; simp only [World.size_alloc] at h1; omega))
  have HC4 := Lib.hid (plan4 HC1.out HO4.out HNE.out.2.2)
  clear hL hSL b4
  obtain ⟨c_0, c_1, c_2, c_3⟩ := HC4.out
  go_wp2_with fail
  refine (Collect_any 1 3 1 0 HL4.out.1 ⟨by decide, by decide⟩).mono ?_
  rintro e w5 ⟨q, Q, rfl, hq, hQ, b5⟩
  have H5 := Lib.hid (show Loop w1 p h n q l 1 3 1 0 (fillL (lst 0 exX 3)) lf (.at 6 none) 9 0 w5 from ⟨_, _, Q, SL, by omega, HM4.out.later b5, HFT.out, hq, fun k e => Nat.le_trans HO4.out.size (hQ k e).1, HL4.out.2, HST.out.1, HO4.out.then_below b5⟩)
  clear hq hQ b5 c_0 c_1 c_2 c_3
  go_wp2
  go_loopw [6, 7] (fun s6 s7 wr => ∃ j : Nat, s6 = .int .i64 j ∧ s7 = .int .i64 j ∧ j ≤ 9 ∧ Loop w1 p h n q l 1 3 1 0 (fillL (lst 0 exX 3)) lf (.at 6 none) 9 j wr) (fun _ s7 _ => 10 - (intOf s7).toNat)
  case atStart => exact ⟨0, rfl, rfl, by omega, H5.out⟩
  case round =>
    obtain ⟨j, rfl, rfl, hj, lw, s, Q, QL, -, hm, hf, hc, hQ, hQL, hst, ho⟩ := hrel
    have HNX := Lib.hid (Next_any hc)
    have HMJ := Lib.hid (And.intro hm hf)
    have HCJ := Lib.hid (And.intro hc (And.intro hQ hQL))
    have HOJ := Lib.hid ho
    clear hm hf hc hQ hQL ho
    by_cases hj9 : j = 9
    · subst hj9
      obtain ⟨rfl, rfl⟩ : lw = lf ∧ s = .at 6 none := by simpa [steps] using hst
      have HNX2 := Lib.hid (show Calls Tryz.prog 8 #[.pointer (some ⟨q, 0, none⟩)] wr fun e w' => e = .returned (.tuple #[.agg #[.int .i64 0, .int .i64 0, .int .u64 0, .int .u64 0, .int .u64 0], .bool false]) ∧ Below wr.heap.size wr w' from HNX.out)
      clear hst HNX
      go_wp2_with fail
      refine HNX2.out.mono ?_
      rintro e6 w6 ⟨rfl, b6⟩
      have HB6 := Lib.hid (b6.trans ((box_below w6 (.cells #[.int .i64 0, .int .i64 0, .int .u64 0, .int .u64 0, .int .u64 0] 34)).mono b6.size))
      have HM6 := Lib.hid (HMJ.out.1.later HB6.out)
      have HO6 := Lib.hid (HOJ.out.then_below HB6.out)
      have HCL6 := Lib.hid (HCJ.out.1.later HB6.out)
      obtain ⟨c_0, c_1, c_2, c_3⟩ := plan4 HC1.out HO6.out HNE.out.2.2
      clear b6
      go_wp2_with fail
      refine (ex_free HM6.out HMJ.out.2 HST.out.2).mono ?_
      rintro e7 w7 ⟨b, o, c, rfl, d0, d1, b7⟩
      have HC7 := Lib.hid (HCL6.out.later b7)
      have HO7 := Lib.hid (HO6.out.then_below b7)
      obtain ⟨S0, hl7, -⟩ := HC7.out.lim
      have HLN := Lib.hid (Len_any (m := 1) hl7 (by decide) (by decide))
      have HCT := Lib.hid (Count_any HC7.out)
      rw [show cntS (fillL (lst 0 exX 3)) (.at 6 none) = 2 by decide] at HCT
      clear b7 hl7 c_0 c_1 c_2 c_3
      go_wp2_with fail
      refine HCT.out.mono ?_
      rintro e8 w8 ⟨rfl, rfl⟩
      go_wp2_with fail
      refine HLN.out.mono ?_
      rintro e8 w8 ⟨rfl, rfl⟩
      go_wp2
      go_ret
      exact ⟨rfl, HB1.out.trans (HO7.out.below HB1.out.size (fun k e => by subst e; exact Nat.le_of_lt HNE.out.2.1))⟩
    · obtain ⟨d, hd, hst2⟩ := steps_amid (show steps (colA 1 1) (colT 1 1 (fillL (lst 0 exX 3))) ((9 - (j + 1)) + 1) lw s = some (lf, .at 6 none) by rw [show 9 - (j + 1) + 1 = 9 - j by omega]; exact hst)
      have HD := Lib.hid (And.intro hd hst2)
      rw [hd] at HNX
      have hjlt : (j : Int) < 20 := by omega
      clear hst hd hst2
      go_wp2_with fail
      refine HNX.out.mono ?_
      rintro e6 w6 ⟨rfl, b6⟩
      simp only [Option.getD_some, Option.isSome_some]
      have HB6 := Lib.hid (b6.trans ((box_below w6 (.cells #[.int .i64 d.1, .int .i64 d.2.1, .int .u64 d.2.2.1, .int .u64 d.2.2.2.1, .int .u64 d.2.2.2.2] 34)).mono b6.size))
      have HM6 := Lib.hid (HMJ.out.1.later HB6.out)
      clear b6
      go_wp2_with fail
      refine (DeedDo.Do_any HM6.out d).mono ?_
      rintro e7 w7 ⟨rfl, g7, m7⟩
      have HO7 := Lib.hid (only_grown (R := fun k => k = h) g7 fun k e => by cases e; rfl)
      have HM7 := Lib.hid m7
      have HC7 := Lib.hid ((HCJ.out.1.later HB6.out).only HO7.out (fun k e z => by have h1 := HCJ.out.2.1 k e; have h2 := HPH.out; omega) (fun k e z => by have h1 := HCJ.out.2.2 k e; have h2 := HPH.out; omega))
      clear g7 m7
      go_wp2_with fail
      refine (Tell_any HC7.out (PoM.fits_found HMJ.out.2 d)).mono ?_
      rintro e8 w8 ⟨rfl, hB⟩
      have H8 := Lib.hid (loop_told HPH.out (show j < 9 by omega) HMJ.out.2 HCJ.out.2.1 HCJ.out.2.2 (Colls.ok HCJ.out.1) HD.out.1 HD.out.2 HOJ.out HB6.out HO7.out HM7.out hB)
      clear hB
      go_wp2
      go_roundw
      case rel => exact ⟨j + 1, by go_num, by go_num, by omega, H8.out⟩
      case measure => simp [intOf]; omega
end Go.Proofs.YtafjokjmogadnaaGreatDoor.Law17

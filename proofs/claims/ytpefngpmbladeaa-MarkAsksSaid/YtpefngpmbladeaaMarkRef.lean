/- The document's answer for layer 22 (package sundialref22), on a tape that holds deeds already: just what a marker asks for. -/
import Derived.Test.YtpefngpmbladeaaTape
import Derived.Test.YtpefngpmbladeaaMarkMath
import Derived.Test.YtpefngpmbladeaaNextRef
namespace Go.Proofs.Ytpefngpmbladeaa.MarkRef
set_option maxRecDepth 20000
open Go.ChangeShapes Go.WideShapes Go.RowKit CM DM PM KM MkM Runs Lay Plan Go.Proofs.Ytpefngpmbladeaa.Task Go.Proofs.Ytpefngpmbladeaa.Tape
set_option linter.unusedVariables false
set_option linter.unusedSimpArgs false

/-- How many deeds a tape holds, read off the world. -/
def outLen (x : Nat) (w : World) : Nat := match w.cell? ⟨x, 1, none⟩ with | some (.slice _ n _) => n | _ => 0
theorem outLen_is {P : Nat → Prop} {w : World} {x : Nat} {fs : List Int} {out : List D} {st : Bool} (h : Tp P w x fs out st) : outLen x w = out.length := by
  obtain ⟨O, oc, h1, _⟩ := h.row
  unfold outLen
  rw [h1]
theorem plan4 {w w' : World} {N : Nat} {R : Nat → Prop} {T S L G : Int} (h : w.cell? ⟨N, 0, none⟩ = some (.int .i64 T) ∧ w.cell? ⟨N, 1, none⟩ = some (.int .i64 S) ∧ w.cell? ⟨N, 2, none⟩ = some (.int .i64 L) ∧ w.cell? ⟨N, 3, none⟩ = some (.int .u64 G)) (ho : Only R w w') (hr : ¬ R N) :
    w'.cell? ⟨N, 0, none⟩ = some (.int .i64 T) ∧ w'.cell? ⟨N, 1, none⟩ = some (.int .i64 S) ∧ w'.cell? ⟨N, 2, none⟩ = some (.int .i64 L) ∧ w'.cell? ⟨N, 3, none⟩ = some (.int .u64 G) :=
  ⟨ho.cell h.1 hr, ho.cell h.2.1 hr, ho.cell h.2.2.1 hr, ho.cell h.2.2.2 hr⟩

/-- What the document's marking ends in. -/
def MarkRan (P : Nat → Prop) (w : World) (x : Nat) (fs : List Int) (pre : List D) (T L r tall : Int) (e : Ending) (w' : World) : Prop :=
  ∃ s out, e = .returned (.tuple #[]) ∧ Fins (markA T L r) markT fs pre ⟨leftI tall L, 0, 0⟩ out s ∧ Tp P w' x fs out (markA T L r s).isSome ∧ Only (fun k => ¬ P k) w w'
/-- Amid the levels: at h, or the tape has stopped. -/
def Head (P : Nat → Prop) (w : World) (x : Nat) (fs : List Int) (pre : List D) (T L r tall : Int) (hv : Value) (wr : World) : Prop :=
  ∃ h : Int, hv = .int .i64 h ∧ (-1 ≤ h ∧ h ≤ 9223372036854775807) ∧
  ((∃ wy out, Amid (markA T L r) markT fs pre ⟨leftI tall L, 0, 0⟩ out ⟨h + 1, 0, wy⟩ ∧ Tp P wr x fs out false ∧ Only (fun k => ¬ P k) w wr) ∨
  (∃ s out, Fins (markA T L r) markT fs pre ⟨leftI tall L, 0, 0⟩ out s ∧ (markA T L r s).isSome = true ∧ Tp P wr x fs out true ∧ Only (fun k => ¬ P k) w wr))
theorem Mark_none {P : Nat → Prop} {x : Nat} {w : World} {fs : List Int} {pre : List D} (hT : Tp P w x fs pre false) (hle : pre.length ≤ fs.length) (T S L G r tall : Int) (h : tall < 1 ∨ L < 1) : Calls Try.prog 8 #[.pointer (some ⟨x, 0, none⟩), .agg #[.int .i64 T, .int .i64 S, .int .i64 L, .int .u64 G], .int .u64 r, .int .i64 tall] w (MarkRan P w x fs pre T L r tall) := by
  have HE := Lib.hid (show MarkRan P w x fs pre T L r tall (.returned (.tuple #[])) (w.alloc (.cells #[.int .i64 T, .int .i64 S, .int .i64 L, .int .u64 G] 24)) from by
    have hl : leftI tall L = 0 := by unfold leftI; omega
    have ha : markA T L r ⟨0, 0, 0⟩ = none := markA_0
    refine ⟨_, _, rfl, (Amid.start hle _).done (by rw [hl]; exact ha), ?_, only_alloc w _ _⟩
    rw [hl, ha]
    exact hT.later (box_below w _))
  obtain ⟨c_0, c_1, c_2, c_3⟩ := box4 w (.int .i64 T) (.int .i64 S) (.int .i64 L) (.int .u64 G) 24
  by_cases h1 : tall < 1
  · clear h hT hle
    have hd : decide (tall < 1) = true := decide_eq_true h1
    go_enter Try.func8, Try.ntmps8
    go_wp2
    exact bodyPost_ret (v := .tuple #[]) (results_none rfl _ _ _) rfl HE.out
  · have h2 : L < 1 := h.resolve_left h1
    have hd : decide (tall < 1) = false := decide_eq_false h1
    have hd2 : decide (L < 1) = true := decide_eq_true h2
    clear h hT hle
    go_enter Try.func8, Try.ntmps8
    go_wp2
    exact bodyPost_ret (v := .tuple #[]) (results_none rfl _ _ _) rfl HE.out
section
variable {T L r h wy f : Int}
theorem look_is (h0 : 0 ≤ h) : markA T L r ⟨h + 1, 0, wy⟩ = some (1, nextI T L (idx r) h, 0, 0, r) := by rw [markA_look (by omega), Int.add_sub_cancel]
theorem turn_is (h0 : 0 ≤ h) : markA T L r ⟨h + 1, 1, wy⟩ = some (3, nextI T L (idx r) h, wy, wy + 1, r) := by rw [markA_turn (by omega), Int.add_sub_cancel]
theorem on_is (h0 : 0 ≤ h) (hf : f % 2 = 1) : markT ⟨h + 1, 0, wy⟩ f = ⟨h - 1 + 1, 0, wy⟩ := by rw [markT_on (by omega) hf, Int.add_sub_cancel, Int.sub_add_cancel]
theorem to_is (h0 : 0 ≤ h) (hf : ¬ f % 2 = 1) : markT ⟨h + 1, 0, wy⟩ f = ⟨h + 1, 1, f⟩ := markT_to (by omega) hf
theorem won_is (h0 : 0 ≤ h) : markT ⟨h + 1, 1, wy⟩ wy = ⟨h - 1 + 1, 0, wy⟩ := by rw [markT_won (by omega) rfl, Int.add_sub_cancel, Int.sub_add_cancel]
theorem lost_is (h0 : 0 ≤ h) (hf : ¬ f = wy) : markT ⟨h + 1, 1, wy⟩ f = ⟨h + 1, 0, wy⟩ := markT_lost (by omega) hf
end
set_option maxHeartbeats 1000000 in
theorem Mark_low {P : Nat → Prop} {x : Nat} {w : World} {fs : List Int} {pre : List D} (hT : Tp P w x fs pre false) (hle : pre.length ≤ fs.length) (hf : ∀ f ∈ fs, 0 ≤ f ∧ f < 18446744073709551616) (T S L G r tall : Int) (hr : 0 ≤ r ∧ r < 18446744073709551616) (hL : 1 ≤ L ∧ L ≤ 9223372036854775807) (ht : 1 ≤ tall ∧ tall ≤ 9223372036854775807) (h2 : tall ≤ L) : Calls Try.prog 8 #[.pointer (some ⟨x, 0, none⟩), .agg #[.int .i64 T, .int .i64 S, .int .i64 L, .int .u64 G], .int .u64 r, .int .i64 tall] w (MarkRan P w x fs pre T L r tall) := by
  have HF := Lib.hid hf
  have HLE := Lib.hid hle
  have HR := Lib.hid hr
  have hX : leftI tall L = tall := by unfold leftI; omega
  have HX := Lib.hid (show tall - 1 + 1 = leftI tall L by rw [hX]; omega)
  obtain ⟨P', hP'⟩ : ∃ P' : Nat → Prop, P' = fun k => P k ∨ k = w.heap.size := ⟨_, rfl⟩
  have HT := Lib.hid (show Tp P' (w.alloc (.cells #[.int .i64 T, .int .i64 S, .int .i64 L, .int .u64 G] 24)) x fs pre false from hP' ▸ hT.more _)
  have HLESS := Lib.hid (show ∀ (wr : World) out st, Tp P' wr x fs out st → Only (fun k => ¬ P' k) (w.alloc (.cells #[.int .i64 T, .int .i64 S, .int .i64 L, .int .u64 G] 24)) wr → Tp P wr x fs out st ∧ Only (fun k => ¬ P k) w wr from fun wr out st h1 h2 => by
    subst hP'
    exact ⟨h1.less fun k q => .inl q, (only_alloc w _ (.cells #[.int .i64 T, .int .i64 S, .int .i64 L, .int .u64 G] 24)).trans (h2.wide fun k q => .inl fun z => q (.inl z))⟩)
  have HN := Lib.hid (show ¬ (fun k => ¬ P' k) w.heap.size from fun q => q (by rw [hP']; exact .inr rfl))
  have HB := Lib.hid (box4 w (.int .i64 T) (.int .i64 S) (.int .i64 L) (.int .u64 G) 24)
  have HST := Lib.hid (show Head P' (w.alloc (.cells #[.int .i64 T, .int .i64 S, .int .i64 L, .int .u64 G] 24)) x fs pre T L r tall (.int .i64 (tall - 1)) (w.alloc (.cells #[.int .i64 T, .int .i64 S, .int .i64 L, .int .u64 G] 24)) from ⟨_, rfl, by omega, .inl ⟨0, pre, by rw [HX.out]; exact Amid.start hle _, HT.out, Only.refl _ _⟩⟩)
  obtain ⟨c_0, c_1, c_2, c_3⟩ := HB.out
  have hw1 : IntKind.i64.wrap (tall - 1) = tall - 1 := by rw [IntKind.wrap_i64]; omega
  have hw2 : IntKind.i64.wrap (L - 1) = L - 1 := by rw [IntKind.wrap_i64]; omega
  have hd1 : decide (tall < 1) = false := decide_eq_false (by omega)
  have hd2 : decide (L < 1) = false := decide_eq_false (by omega)
  have hgt : ¬ L - 1 < tall - 1 := by omega
  clear hf hT hP' hle hr hX hL ht h2
  go_enter Try.func8, Try.ntmps8
  go_wp2
  clear c_0 c_1 c_2 c_3 hw1 hw2 hd1 hd2 hgt
  go_loopw [8] (fun hv wr => Head P' (w.alloc (.cells #[.int .i64 T, .int .i64 S, .int .i64 L, .int .u64 G] 24)) x fs pre T L r tall hv wr) (fun _ wr => fs.length + 2 - outLen x wr)
  case atStart => exact HST.out
  case round =>
    obtain ⟨h, rfl, hb, hor⟩ := hrel
    have HHB := Lib.hid hb
    rcases hor with ⟨wy, out, hm, ht, hon⟩ | ⟨s, out, hfin, hmo, ht, hon⟩
    · have c4 := ht.stop
      have HM := Lib.hid hm
      have HON := Lib.hid hon
      have HT1 := Lib.hid ht
      have HL1 := Lib.hid (outLen_is ht)
      clear hm hon ht
      by_cases h0 : 0 ≤ h
      · obtain ⟨c_0, c_1, c_2, c_3⟩ := plan4 HB.out HON.out HN.out
        have HH0 := Lib.hid h0
        have HLK := Lib.hid (look_is (T := T) (L := L) (r := r) (wy := wy) h0)
        have HTN := Lib.hid fun v => turn_is (T := T) (L := L) (r := r) (wy := v) h0
        have HNX := Lib.hid fun W => NextRef.Next_any T S L G h HR.out W
        have hwh : IntKind.i64.wrap (h - 1) = h - 1 := by rw [IntKind.wrap_i64]; omega
        have HHB2 := Lib.hid (show -1 ≤ h - 1 ∧ h - 1 ≤ 9223372036854775807 by omega)
        generalize nextI T L (idx r) h = pl at HLK HTN HNX
        clear hb
        go_wp2_with fail
        refine (HNX.out _).mono ?_
        rintro e w1 ⟨rfl, b1⟩
        have HT2 := Lib.hid (HT1.out.later b1)
        have HO2 := Lib.hid (HON.out.then_below b1)
        clear b1 c_0 c_1 c_2 c_3 c4
        by_cases h1 : out.length = fs.length
        · have HH := Lib.hid h1
          clear h1
          go_wp2_with fail
          refine (Load_last HT2.out HH.out pl r).mono ?_
          rintro e w2 ⟨rfl, t2, o2⟩
          have K := Lib.hid (HLESS.out _ _ _ t2 (HO2.out.trans o2))
          have c4 := t2.stop
          clear t2 o2
          go_wp2
          exact bodyPost_ret (v := .tuple #[]) (results_none rfl _ _ _) rfl ⟨⟨h + 1, 0, wy⟩, _, rfl, HM.out.last HLK.out (by rw [HH.out]; exact Nat.le_refl _), by rw [HLK.out]; exact K.out.1, K.out.2⟩
        · obtain ⟨f, hf⟩ : ∃ f, fs[out.length]? = some f := ⟨_, List.getElem?_eq_getElem (by have := HM.out.len; omega)⟩
          have HFB := Lib.hid (HF.out f (List.mem_of_getElem? hf))
          have HM2 := Lib.hid (HM.out.more HLK.out hf)
          have HFF := Lib.hid hf
          have HLT := Lib.hid (show out.length < fs.length by have := HM.out.len; omega)
          clear hf h1
          go_wp2_with fail
          refine (Load_more HT2.out HFF.out pl r).mono ?_
          rintro e w2 ⟨rfl, t2, o2⟩
          have HT3 := Lib.hid t2
          have HO3 := Lib.hid (HO2.out.trans o2)
          have c4 := t2.stop
          have HMK := Lib.hid fun W => Ref02.Marked_any f HFB.out.1 HFB.out.2 W
          clear t2 o2
          by_cases hf2 : f % 2 = 1
          · rw [decide_eq_true hf2] at HMK
            have H4 := Lib.hid (show Head P' (w.alloc (.cells #[.int .i64 T, .int .i64 S, .int .i64 L, .int .u64 G] 24)) x fs pre T L r tall (.int .i64 (h - 1)) w2 from ⟨_, rfl, HHB2.out, .inl ⟨wy, _, on_is HH0.out hf2 ▸ HM2.out, HT3.out, HO3.out⟩⟩)
            clear hf2
            go_wp2_with fail
            refine (HMK.out _).mono ?_
            rintro e w3 ⟨rfl, rfl⟩
            go_wp2
            go_roundw
            case rel => exact H4.out
            case measure => rw [HL1.out, outLen_is HT3.out]; have := HLT.out; simp; omega
          · rw [decide_eq_false hf2] at HMK
            have HM3 := Lib.hid (to_is HH0.out hf2 ▸ HM2.out)
            have hwf : IntKind.u64.wrap (f + 1) = f + 1 := by rw [IntKind.wrap_u64]; have := HFB.out; omega
            clear hf2
            go_wp2_with fail
            refine (HMK.out _).mono ?_
            rintro e w3 ⟨rfl, rfl⟩
            by_cases h2 : (out ++ [(1, pl, 0, 0, r)]).length = fs.length
            · have HH2 := Lib.hid h2
              clear h2
              go_wp2_with fail
              refine (Swap_last HT3.out HH2.out pl f (f + 1) r).mono ?_
              rintro e w4 ⟨rfl, t4, o4⟩
              have HT4 := Lib.hid t4
              have HO4 := Lib.hid (HO3.out.trans o4)
              clear t4 o4 c4
              go_wp2
              go_roundw
              case rel => exact ⟨_, rfl, HHB.out, .inr ⟨⟨h + 1, 1, f⟩, _, HM3.out.last (HTN.out f) (by rw [HH2.out]; exact Nat.le_refl _), by rw [HTN.out f]; rfl, HT4.out, HO4.out⟩⟩
              case measure => rw [HL1.out, outLen_is HT4.out]; have := HLT.out; simp; omega
            · obtain ⟨g, hg⟩ : ∃ g, fs[(out ++ [((1, pl, 0, 0, r) : D)]).length]? = some g := ⟨_, List.getElem?_eq_getElem (by have := HM3.out.len; omega)⟩
              have HM4 := Lib.hid (HM3.out.more (HTN.out f) hg)
              have HGG := Lib.hid hg
              clear hg h2
              by_cases hgf : g = f
              · subst hgf
                rw [won_is HH0.out] at HM4
                go_wp2_with fail
                refine (Swap_yes HT3.out HGG.out pl (g + 1) r).mono ?_
                rintro e w4 ⟨rfl, t4, o4⟩
                have HT4 := Lib.hid t4
                have HO4 := Lib.hid (HO3.out.trans o4)
                clear t4 o4 c4
                have H4 := Lib.hid (show Head P' (w.alloc (.cells #[.int .i64 T, .int .i64 S, .int .i64 L, .int .u64 G] 24)) x fs pre T L r tall (.int .i64 (h - 1)) w4 from ⟨_, rfl, HHB2.out, .inl ⟨g, _, HM4.out, HT4.out, HO4.out⟩⟩)
                go_wp2
                go_roundw
                case rel => exact H4.out
                case measure => rw [HL1.out, outLen_is HT4.out]; have := HLT.out; simp; omega
              · rw [lost_is HH0.out hgf] at HM4
                have HGF := Lib.hid hgf
                clear hgf
                go_wp2_with fail
                refine (Swap_no HT3.out HGG.out HGF.out pl (f + 1) r).mono ?_
                rintro e w4 ⟨rfl, t4, o4⟩
                have HT4 := Lib.hid t4
                have HO4 := Lib.hid (HO3.out.trans o4)
                clear t4 o4 c4
                have H4 := Lib.hid (show Head P' (w.alloc (.cells #[.int .i64 T, .int .i64 S, .int .i64 L, .int .u64 G] 24)) x fs pre T L r tall (.int .i64 h) w4 from ⟨_, rfl, HHB.out, .inl ⟨f, _, HM4.out, HT4.out, HO4.out⟩⟩)
                go_wp2
                go_roundw
                case rel => exact H4.out
                case measure => rw [HL1.out, outLen_is HT4.out]; have := HLT.out; simp; omega
      · have K := Lib.hid (HLESS.out _ _ _ HT1.out HON.out)
        have HHE := Lib.hid (show h + 1 = 0 by omega)
        have HEND := Lib.hid (show MarkRan P w x fs pre T L r tall (.returned (.tuple #[])) wr from by
          have hm := HM.out
          rw [HHE.out] at hm
          exact ⟨_, _, rfl, hm.done markA_0, by rw [markA_0]; exact K.out.1, K.out.2⟩)
        clear hb
        go_wp2
        refine bodyPost_end (results_none rfl _ _ _) rfl ?_
        exact HEND.out
    · have c4 := ht.stop
      have K := Lib.hid (HLESS.out _ _ _ ht hon)
      have HEND := Lib.hid (show MarkRan P w x fs pre T L r tall (.returned (.tuple #[])) wr from ⟨_, _, rfl, hfin, by rw [hmo]; exact K.out.1, K.out.2⟩)
      clear hb hfin hmo ht hon
      by_cases h0 : 0 ≤ h
      · go_wp2
        refine bodyPost_end (results_none rfl _ _ _) rfl ?_
        exact HEND.out
      · go_wp2
        refine bodyPost_end (results_none rfl _ _ _) rfl ?_
        exact HEND.out
set_option maxHeartbeats 1000000 in
theorem Mark_high {P : Nat → Prop} {x : Nat} {w : World} {fs : List Int} {pre : List D} (hT : Tp P w x fs pre false) (hle : pre.length ≤ fs.length) (hf : ∀ f ∈ fs, 0 ≤ f ∧ f < 18446744073709551616) (T S L G r tall : Int) (hr : 0 ≤ r ∧ r < 18446744073709551616) (hL : 1 ≤ L ∧ L ≤ 9223372036854775807) (ht : 1 ≤ tall ∧ tall ≤ 9223372036854775807) (h2 : ¬ tall ≤ L) : Calls Try.prog 8 #[.pointer (some ⟨x, 0, none⟩), .agg #[.int .i64 T, .int .i64 S, .int .i64 L, .int .u64 G], .int .u64 r, .int .i64 tall] w (MarkRan P w x fs pre T L r tall) := by
  have HF := Lib.hid hf
  have HLE := Lib.hid hle
  have HR := Lib.hid hr
  have hX : leftI tall L = L := by unfold leftI; omega
  have HX := Lib.hid (show L - 1 + 1 = leftI tall L by rw [hX]; omega)
  obtain ⟨P', hP'⟩ : ∃ P' : Nat → Prop, P' = fun k => P k ∨ k = w.heap.size := ⟨_, rfl⟩
  have HT := Lib.hid (show Tp P' (w.alloc (.cells #[.int .i64 T, .int .i64 S, .int .i64 L, .int .u64 G] 24)) x fs pre false from hP' ▸ hT.more _)
  have HLESS := Lib.hid (show ∀ (wr : World) out st, Tp P' wr x fs out st → Only (fun k => ¬ P' k) (w.alloc (.cells #[.int .i64 T, .int .i64 S, .int .i64 L, .int .u64 G] 24)) wr → Tp P wr x fs out st ∧ Only (fun k => ¬ P k) w wr from fun wr out st h1 h2 => by
    subst hP'
    exact ⟨h1.less fun k q => .inl q, (only_alloc w _ (.cells #[.int .i64 T, .int .i64 S, .int .i64 L, .int .u64 G] 24)).trans (h2.wide fun k q => .inl fun z => q (.inl z))⟩)
  have HN := Lib.hid (show ¬ (fun k => ¬ P' k) w.heap.size from fun q => q (by rw [hP']; exact .inr rfl))
  have HB := Lib.hid (box4 w (.int .i64 T) (.int .i64 S) (.int .i64 L) (.int .u64 G) 24)
  have HST := Lib.hid (show Head P' (w.alloc (.cells #[.int .i64 T, .int .i64 S, .int .i64 L, .int .u64 G] 24)) x fs pre T L r tall (.int .i64 (L - 1)) (w.alloc (.cells #[.int .i64 T, .int .i64 S, .int .i64 L, .int .u64 G] 24)) from ⟨_, rfl, by omega, .inl ⟨0, pre, by rw [HX.out]; exact Amid.start hle _, HT.out, Only.refl _ _⟩⟩)
  obtain ⟨c_0, c_1, c_2, c_3⟩ := HB.out
  have hw1 : IntKind.i64.wrap (tall - 1) = tall - 1 := by rw [IntKind.wrap_i64]; omega
  have hw2 : IntKind.i64.wrap (L - 1) = L - 1 := by rw [IntKind.wrap_i64]; omega
  have hd1 : decide (tall < 1) = false := decide_eq_false (by omega)
  have hd2 : decide (L < 1) = false := decide_eq_false (by omega)
  have hgt : L - 1 < tall - 1 := by omega
  clear hf hT hP' hle hr hX hL ht h2
  go_enter Try.func8, Try.ntmps8
  go_wp2
  clear c_0 c_1 c_2 c_3 hw1 hw2 hd1 hd2 hgt
  go_loopw [8] (fun hv wr => Head P' (w.alloc (.cells #[.int .i64 T, .int .i64 S, .int .i64 L, .int .u64 G] 24)) x fs pre T L r tall hv wr) (fun _ wr => fs.length + 2 - outLen x wr)
  case atStart => exact HST.out
  case round =>
    obtain ⟨h, rfl, hb, hor⟩ := hrel
    have HHB := Lib.hid hb
    rcases hor with ⟨wy, out, hm, ht, hon⟩ | ⟨s, out, hfin, hmo, ht, hon⟩
    · have c4 := ht.stop
      have HM := Lib.hid hm
      have HON := Lib.hid hon
      have HT1 := Lib.hid ht
      have HL1 := Lib.hid (outLen_is ht)
      clear hm hon ht
      by_cases h0 : 0 ≤ h
      · obtain ⟨c_0, c_1, c_2, c_3⟩ := plan4 HB.out HON.out HN.out
        have HH0 := Lib.hid h0
        have HLK := Lib.hid (look_is (T := T) (L := L) (r := r) (wy := wy) h0)
        have HTN := Lib.hid fun v => turn_is (T := T) (L := L) (r := r) (wy := v) h0
        have HNX := Lib.hid fun W => NextRef.Next_any T S L G h HR.out W
        have hwh : IntKind.i64.wrap (h - 1) = h - 1 := by rw [IntKind.wrap_i64]; omega
        have HHB2 := Lib.hid (show -1 ≤ h - 1 ∧ h - 1 ≤ 9223372036854775807 by omega)
        generalize nextI T L (idx r) h = pl at HLK HTN HNX
        clear hb
        go_wp2_with fail
        refine (HNX.out _).mono ?_
        rintro e w1 ⟨rfl, b1⟩
        have HT2 := Lib.hid (HT1.out.later b1)
        have HO2 := Lib.hid (HON.out.then_below b1)
        clear b1 c_0 c_1 c_2 c_3 c4
        by_cases h1 : out.length = fs.length
        · have HH := Lib.hid h1
          clear h1
          go_wp2_with fail
          refine (Load_last HT2.out HH.out pl r).mono ?_
          rintro e w2 ⟨rfl, t2, o2⟩
          have K := Lib.hid (HLESS.out _ _ _ t2 (HO2.out.trans o2))
          have c4 := t2.stop
          clear t2 o2
          go_wp2
          exact bodyPost_ret (v := .tuple #[]) (results_none rfl _ _ _) rfl ⟨⟨h + 1, 0, wy⟩, _, rfl, HM.out.last HLK.out (by rw [HH.out]; exact Nat.le_refl _), by rw [HLK.out]; exact K.out.1, K.out.2⟩
        · obtain ⟨f, hf⟩ : ∃ f, fs[out.length]? = some f := ⟨_, List.getElem?_eq_getElem (by have := HM.out.len; omega)⟩
          have HFB := Lib.hid (HF.out f (List.mem_of_getElem? hf))
          have HM2 := Lib.hid (HM.out.more HLK.out hf)
          have HFF := Lib.hid hf
          have HLT := Lib.hid (show out.length < fs.length by have := HM.out.len; omega)
          clear hf h1
          go_wp2_with fail
          refine (Load_more HT2.out HFF.out pl r).mono ?_
          rintro e w2 ⟨rfl, t2, o2⟩
          have HT3 := Lib.hid t2
          have HO3 := Lib.hid (HO2.out.trans o2)
          have c4 := t2.stop
          have HMK := Lib.hid fun W => Ref02.Marked_any f HFB.out.1 HFB.out.2 W
          clear t2 o2
          by_cases hf2 : f % 2 = 1
          · rw [decide_eq_true hf2] at HMK
            have H4 := Lib.hid (show Head P' (w.alloc (.cells #[.int .i64 T, .int .i64 S, .int .i64 L, .int .u64 G] 24)) x fs pre T L r tall (.int .i64 (h - 1)) w2 from ⟨_, rfl, HHB2.out, .inl ⟨wy, _, on_is HH0.out hf2 ▸ HM2.out, HT3.out, HO3.out⟩⟩)
            clear hf2
            go_wp2_with fail
            refine (HMK.out _).mono ?_
            rintro e w3 ⟨rfl, rfl⟩
            go_wp2
            go_roundw
            case rel => exact H4.out
            case measure => rw [HL1.out, outLen_is HT3.out]; have := HLT.out; simp; omega
          · rw [decide_eq_false hf2] at HMK
            have HM3 := Lib.hid (to_is HH0.out hf2 ▸ HM2.out)
            have hwf : IntKind.u64.wrap (f + 1) = f + 1 := by rw [IntKind.wrap_u64]; have := HFB.out; omega
            clear hf2
            go_wp2_with fail
            refine (HMK.out _).mono ?_
            rintro e w3 ⟨rfl, rfl⟩
            by_cases h2 : (out ++ [(1, pl, 0, 0, r)]).length = fs.length
            · have HH2 := Lib.hid h2
              clear h2
              go_wp2_with fail
              refine (Swap_last HT3.out HH2.out pl f (f + 1) r).mono ?_
              rintro e w4 ⟨rfl, t4, o4⟩
              have HT4 := Lib.hid t4
              have HO4 := Lib.hid (HO3.out.trans o4)
              clear t4 o4 c4
              go_wp2
              go_roundw
              case rel => exact ⟨_, rfl, HHB.out, .inr ⟨⟨h + 1, 1, f⟩, _, HM3.out.last (HTN.out f) (by rw [HH2.out]; exact Nat.le_refl _), by rw [HTN.out f]; rfl, HT4.out, HO4.out⟩⟩
              case measure => rw [HL1.out, outLen_is HT4.out]; have := HLT.out; simp; omega
            · obtain ⟨g, hg⟩ : ∃ g, fs[(out ++ [((1, pl, 0, 0, r) : D)]).length]? = some g := ⟨_, List.getElem?_eq_getElem (by have := HM3.out.len; omega)⟩
              have HM4 := Lib.hid (HM3.out.more (HTN.out f) hg)
              have HGG := Lib.hid hg
              clear hg h2
              by_cases hgf : g = f
              · subst hgf
                rw [won_is HH0.out] at HM4
                go_wp2_with fail
                refine (Swap_yes HT3.out HGG.out pl (g + 1) r).mono ?_
                rintro e w4 ⟨rfl, t4, o4⟩
                have HT4 := Lib.hid t4
                have HO4 := Lib.hid (HO3.out.trans o4)
                clear t4 o4 c4
                have H4 := Lib.hid (show Head P' (w.alloc (.cells #[.int .i64 T, .int .i64 S, .int .i64 L, .int .u64 G] 24)) x fs pre T L r tall (.int .i64 (h - 1)) w4 from ⟨_, rfl, HHB2.out, .inl ⟨g, _, HM4.out, HT4.out, HO4.out⟩⟩)
                go_wp2
                go_roundw
                case rel => exact H4.out
                case measure => rw [HL1.out, outLen_is HT4.out]; have := HLT.out; simp; omega
              · rw [lost_is HH0.out hgf] at HM4
                have HGF := Lib.hid hgf
                clear hgf
                go_wp2_with fail
                refine (Swap_no HT3.out HGG.out HGF.out pl (f + 1) r).mono ?_
                rintro e w4 ⟨rfl, t4, o4⟩
                have HT4 := Lib.hid t4
                have HO4 := Lib.hid (HO3.out.trans o4)
                clear t4 o4 c4
                have H4 := Lib.hid (show Head P' (w.alloc (.cells #[.int .i64 T, .int .i64 S, .int .i64 L, .int .u64 G] 24)) x fs pre T L r tall (.int .i64 h) w4 from ⟨_, rfl, HHB.out, .inl ⟨f, _, HM4.out, HT4.out, HO4.out⟩⟩)
                go_wp2
                go_roundw
                case rel => exact H4.out
                case measure => rw [HL1.out, outLen_is HT4.out]; have := HLT.out; simp; omega
      · have K := Lib.hid (HLESS.out _ _ _ HT1.out HON.out)
        have HHE := Lib.hid (show h + 1 = 0 by omega)
        have HEND := Lib.hid (show MarkRan P w x fs pre T L r tall (.returned (.tuple #[])) wr from by
          have hm := HM.out
          rw [HHE.out] at hm
          exact ⟨_, _, rfl, hm.done markA_0, by rw [markA_0]; exact K.out.1, K.out.2⟩)
        clear hb
        go_wp2
        refine bodyPost_end (results_none rfl _ _ _) rfl ?_
        exact HEND.out
    · have c4 := ht.stop
      have K := Lib.hid (HLESS.out _ _ _ ht hon)
      have HEND := Lib.hid (show MarkRan P w x fs pre T L r tall (.returned (.tuple #[])) wr from ⟨_, _, rfl, hfin, by rw [hmo]; exact K.out.1, K.out.2⟩)
      clear hb hfin hmo ht hon
      by_cases h0 : 0 ≤ h
      · go_wp2
        refine bodyPost_end (results_none rfl _ _ _) rfl ?_
        exact HEND.out
      · go_wp2
        refine bodyPost_end (results_none rfl _ _ _) rfl ?_
        exact HEND.out
theorem Mark_runs {P : Nat → Prop} {x : Nat} {w : World} {fs : List Int} {pre : List D} (hT : Tp P w x fs pre false) (hle : pre.length ≤ fs.length) (hf : ∀ f ∈ fs, 0 ≤ f ∧ f < 18446744073709551616) (T S L G r tall : Int) (hr : 0 ≤ r ∧ r < 18446744073709551616) (hL : L ≤ 9223372036854775807) (ht : tall ≤ 9223372036854775807) : Calls Try.prog 8 #[.pointer (some ⟨x, 0, none⟩), .agg #[.int .i64 T, .int .i64 S, .int .i64 L, .int .u64 G], .int .u64 r, .int .i64 tall] w (MarkRan P w x fs pre T L r tall) := by
  by_cases h1 : tall < 1 ∨ L < 1
  · exact Mark_none hT hle T S L G r tall h1
  · by_cases h2 : tall ≤ L
    · exact Mark_low hT hle hf T S L G r tall hr (by omega) (by omega) h2
    · exact Mark_high hT hle hf T S L G r tall hr (by omega) (by omega) h2
theorem Mark_run {P : Nat → Prop} {x : Nat} {w : World} {fs : List Int} (hT : Tp P w x fs [] false) (hf : ∀ f ∈ fs, 0 ≤ f ∧ f < 18446744073709551616) (T S L G r tall : Int) (hr : 0 ≤ r ∧ r < 18446744073709551616) (hL : L ≤ 9223372036854775807) (ht : tall ≤ 9223372036854775807) : Calls Try.prog 8 #[.pointer (some ⟨x, 0, none⟩), .agg #[.int .i64 T, .int .i64 S, .int .i64 L, .int .u64 G], .int .u64 r, .int .i64 tall] w fun e w' =>
    ∃ s out, e = .returned (.tuple #[]) ∧ Fin (markA T L r) markT fs ⟨leftI tall L, 0, 0⟩ out s ∧ Tp P w' x fs out (markA T L r s).isSome ∧ Only (fun k => ¬ P k) w w' :=
  Mark_runs hT (Nat.zero_le _) hf T S L G r tall hr hL ht
end Go.Proofs.Ytpefngpmbladeaa.MarkRef

/- The document's answers for layer 12 (package sundialref12), on a tape: just what the tasks ask for. -/
import Derived.Test.YtmeghmlojnbmbaaDoorTape
import Derived.Test.YtmeghmlojnbmbaaDoorRef01
import Derived.Test.YtmeghmlojnbmbaaDoorPoolMath
import Derived.Test.YtmeghmlojnbmbaaDoorPlanRef
namespace Go.Proofs.YtmeghmlojnbmbaaDoor.PoolRef
set_option maxRecDepth 20000
open Go.ChangeShapes Go.WideShapes Go.RowKit CM DM PM PoM Runs Lay Plan Go.Proofs.YtmeghmlojnbmbaaDoor.Task Go.Proofs.YtmeghmlojnbmbaaDoor.Tape
set_option linter.unusedVariables false
set_option linter.unusedSimpArgs false

/-- How many deeds a tape holds, read off the world. -/
def outLen (x : Nat) (w : World) : Nat := match w.cell? ⟨x, 1, none⟩ with | some (.slice _ n _) => n | _ => 0
theorem outLen_is {P : Nat → Prop} {w : World} {x : Nat} {fs : List Int} {out : List D} {st : Bool} (h : Tp P w x fs out st) : outLen x w = out.length := by
  obtain ⟨O, oc, h1, _⟩ := h.row
  unfold outLen
  rw [h1]
theorem plan4 {w w' : World} {N : Nat} {R : Nat → Prop} {T S L G : Int} (h : w.cell? ⟨N, 0, none⟩ = some (.int .i64 T) ∧ w.cell? ⟨N, 1, none⟩ = some (.int .i64 S) ∧ w.cell? ⟨N, 2, none⟩ = some (.int .i64 L) ∧ w.cell? ⟨N, 3, none⟩ = some (.int .u64 G)) (ho : Only R w w') (hr : ¬ R N) :
    w'.cell? ⟨N, 0, none⟩ = some (.int .i64 T) ∧ w'.cell? ⟨N, 1, none⟩ = some (.int .i64 S) ∧ w'.cell? ⟨N, 2, none⟩ = some (.int .i64 L) ∧ w'.cell? ⟨N, 3, none⟩ = some (.int .u64 G) :=
  ⟨ho.cell h.1 hr, ho.cell h.2.1 hr, ho.cell h.2.2.1 hr, ho.cell h.2.2.2 hr⟩

/-- What the document's taking ends in. -/
def PopRan (P : Nat → Prop) (w : World) (x : Nat) (fs : List Int) (T L : Int) (e : Ending) (w' : World) : Prop :=
  ∃ s out, e = .returned (.int .i64 (popI s)) ∧ Fin (popA T L) popT fs ⟨1, 0, 0⟩ out s ∧ Tp P w' x fs out (popA T L s).isSome ∧ Only (fun k => ¬ P k) w w'
/-- In amid the tries. -/
def PopHead (P : Nat → Prop) (w : World) (x : Nat) (fs : List Int) (T L : Int) (wr : World) : Prop :=
  (∃ wa lo out, Mid (popA T L) popT fs ⟨1, 0, 0⟩ out ⟨1, wa, lo⟩ ∧ Tp P wr x fs out false ∧ Only (fun k => ¬ P k) w wr) ∨
  (∃ s out, Fin (popA T L) popT fs ⟨1, 0, 0⟩ out s ∧ popI s = 0 ∧ (popA T L s).isSome = true ∧ Tp P wr x fs out true ∧ Only (fun k => ¬ P k) w wr)

theorem Pop_run {P : Nat → Prop} {x : Nat} {w : World} {fs : List Int} (hT : Tp P w x fs [] false) (hf : ∀ f ∈ fs, 0 ≤ f ∧ f < 18446744073709551616) (T S L G : Int) : Calls Tryd.prog 10 #[.pointer (some ⟨x, 0, none⟩), .agg #[.int .i64 T, .int .i64 S, .int .i64 L, .int .u64 G]] w (PopRan P w x fs T L) := by
  have HF := Lib.hid hf
  obtain ⟨P', hP'⟩ : ∃ P' : Nat → Prop, P' = fun k => P k ∨ k = w.heap.size := ⟨_, rfl⟩
  have HT := Lib.hid (show Tp P' (w.alloc (.cells #[.int .i64 T, .int .i64 S, .int .i64 L, .int .u64 G] 24)) x fs [] false from hP' ▸ hT.more _)
  have HLESS := Lib.hid (show ∀ (wr : World) out st, Tp P' wr x fs out st → Only (fun k => ¬ P' k) (w.alloc (.cells #[.int .i64 T, .int .i64 S, .int .i64 L, .int .u64 G] 24)) wr → Tp P wr x fs out st ∧ Only (fun k => ¬ P k) w wr from fun wr out st h1 h2 => by
    subst hP'
    exact ⟨h1.less fun k q => .inl q, (only_alloc w _ (.cells #[.int .i64 T, .int .i64 S, .int .i64 L, .int .u64 G] 24)).trans (h2.wide fun k q => .inl fun z => q (.inl z))⟩)
  have HN := Lib.hid (show ¬ (fun k => ¬ P' k) w.heap.size from fun q => q (by rw [hP']; exact .inr rfl))
  have HB := Lib.hid (box4 w (.int .i64 T) (.int .i64 S) (.int .i64 L) (.int .u64 G) 24)
  obtain ⟨c_0, c_1, c_2, c_3⟩ := HB.out
  clear hf hT hP'
  go_enter Tryd.func10, Tryd.ntmps10
  go_wp2
  clear c_0 c_1 c_2 c_3
  go_loopw [] (fun wr => PopHead P' (w.alloc (.cells #[.int .i64 T, .int .i64 S, .int .i64 L, .int .u64 G] 24)) x fs T L wr) (fun wr => fs.length + 1 - outLen x wr)
  case atStart => exact .inl ⟨0, 0, [], Mid.start _ _, HT.out, Only.refl _ _⟩
  case round =>
    rcases hrel with ⟨wa, lo, out, hm, ht, hon⟩ | ⟨s, out, hfin, hs, hmo, ht, hon⟩
    · have c2 := ht.stop
      have HM := Lib.hid hm
      have HON := Lib.hid hon
      have HT1 := Lib.hid ht
      have HL1 := Lib.hid (outLen_is ht)
      clear hm hon ht
      by_cases h1 : out.length = fs.length
      · have HH := Lib.hid h1
        clear h1
        go_wp2_with fail
        refine (Load_last HT1.out HH.out 3 0).mono ?_
        rintro e w1 ⟨rfl, t1, o1⟩
        have K := Lib.hid (HLESS.out _ _ _ t1 (HON.out.trans o1))
        clear t1 o1 c2
        go_wp2
        go_ret
        exact ⟨⟨1, wa, lo⟩, _, rfl, HM.out.last (popA_1 T L wa lo) (by rw [HH.out]; exact Nat.le_refl _), by rw [popA_1]; exact K.out.1, K.out.2⟩
      · obtain ⟨f, hf⟩ : ∃ f, fs[out.length]? = some f := ⟨_, List.getElem?_eq_getElem (by have := HM.out.len; omega)⟩
        obtain ⟨f0, f1⟩ := HF.out f (List.mem_of_getElem? hf)
        have HM2 := Lib.hid (HM.out.more (popA_1 T L wa lo) hf)
        have HFF := Lib.hid hf
        clear hf h1
        go_wp2_with fail
        refine (Load_more HT1.out HFF.out 3 0).mono ?_
        rintro e w1 ⟨rfl, t1, o1⟩
        have HT2 := Lib.hid t1
        have HO2 := Lib.hid (HON.out.trans o1)
        have c3 := t1.stop
        clear t1 o1 c2
        obtain ⟨q, hq⟩ : ∃ q, q = f % 4294967296 := ⟨_, rfl⟩
        have q0 : 0 ≤ q ∧ q < 4294967296 := by omega
        by_cases hz : q = 0
        · have hz2 : f % 4294967296 = 0 := by omega
          have HZ := Lib.hid (show Mid (popA T L) popT fs ⟨1, 0, 0⟩ (out ++ [(1, 3, 0, 0, 0)]) ⟨0, f, lo⟩ from popT_1n (w := wa) (b := lo) hz2 ▸ HM2.out)
          have K := Lib.hid (HLESS.out _ _ _ HT2.out HO2.out)
          clear hz hq q0
          go_wp2
          go_ret
          exact ⟨⟨0, f, lo⟩, _, by rw [popI_0, hz2]; rfl, HZ.out.done (popA_0 T L f lo), by rw [popA_0]; exact K.out.1, K.out.2⟩
        · have hz2 : ¬ f % 4294967296 = 0 := by omega
          have HZ := Lib.hid (show Mid (popA T L) popT fs ⟨1, 0, 0⟩ (out ++ [(1, 3, 0, 0, 0)]) ⟨2, f, lo⟩ from popT_1 (w := wa) (b := lo) hz2 ▸ HM2.out)
          have HQ := Lib.hid hq
          have hqz : (f % 4294967296 == 0) = false := by simpa using hz2
          obtain ⟨c_0, c_1, c_2, c_3⟩ := plan4 HB.out HO2.out HN.out
          have HFB := Lib.hid (And.intro f0 f1)
          have HQB := Lib.hid (show 0 ≤ f / 4294967296 ∧ f / 4294967296 < 4294967296 by omega)
          have hqb := HQB.out
          have HPR := Lib.hid (show ∀ (g : Int), 0 ≤ g → ∀ W : World, Calls Tryd.prog 30 #[.int .u64 (f / 4294967296 + 1), .int .u64 g] W fun e w' => e = .returned (.int .u64 (turnI f g)) ∧ W = w' from fun g g0 W => R01.Pair_any (f / 4294967296 + 1) g (by have := HQB.out; omega) g0 W)
          clear f0 f1 hz hq q0 hz2
          go_wp2_with fail
          refine (PlanRef.Slot_any T S L G (f % 4294967296) 5 _).mono ?_
          rintro e w2 ⟨rfl, b2⟩
          have HT3 := Lib.hid (HT2.out.later b2)
          have HO3 := Lib.hid (HO2.out.then_below b2)
          clear b2 c_0 c_1 c_2 c_3 c3
          by_cases h2 : (out ++ [(1, 3, 0, 0, 0)]).length = fs.length
          · have HH2 := Lib.hid h2
            clear h2
            go_wp2_with fail
            refine (Load_last HT3.out HH2.out (atI T L (f % 4294967296) 5) 0).mono ?_
            rintro e w3 ⟨rfl, t3, o3⟩
            have HT4 := Lib.hid t3
            have HO4 := Lib.hid (HO3.out.trans o3)
            clear t3 o3
            go_wp2_with fail
            refine (R01.High_any f HFB.out.1 HFB.out.2 _).mono ?_
            rintro e w4 ⟨rfl, rfl⟩
            go_wp2_with fail
            refine (HPR.out 0 (by decide) _).mono ?_
            rintro e w5 ⟨rfl, rfl⟩
            go_wp2_with fail
            refine (Swap_stop HT4.out 3 f (turnI f 0) 0).mono ?_
            rintro e w6 ⟨rfl, rfl⟩
            go_wp2
            go_roundw
            case rel => exact .inr ⟨⟨2, f, lo⟩, _, HZ.out.last (popA_2 T L f lo) (by rw [HH2.out]; exact Nat.le_refl _), popI_n (by simp), by rw [popA_2]; rfl, HT4.out, HO4.out⟩
            case measure => rw [HL1.out, outLen_is HT4.out]; have := HM.out.len; simp; omega
          · obtain ⟨g, hg⟩ : ∃ g, fs[(out ++ [((1, 3, 0, 0, 0) : D)]).length]? = some g := ⟨_, List.getElem?_eq_getElem (by have := HZ.out.len; omega)⟩
            have HGB := Lib.hid (HF.out g (List.mem_of_getElem? hg))
            have HM3 := Lib.hid (show Mid (popA T L) popT fs ⟨1, 0, 0⟩ (out ++ [(1, 3, 0, 0, 0)] ++ [(1, atI T L (f % 4294967296) 5, 0, 0, 0)]) ⟨3, f, g⟩ from popT_2 f lo g ▸ HZ.out.more (popA_2 T L f lo) hg)
            have HGG := Lib.hid hg
            clear hg h2
            go_wp2_with fail
            refine (Load_more HT3.out HGG.out (atI T L (f % 4294967296) 5) 0).mono ?_
            rintro e w3 ⟨rfl, t3, o3⟩
            have HT4 := Lib.hid t3
            have HO4 := Lib.hid (HO3.out.trans o3)
            clear t3 o3
            have hgb := HGB.out
            go_wp2_with fail
            refine (R01.High_any f HFB.out.1 HFB.out.2 _).mono ?_
            rintro e w4 ⟨rfl, rfl⟩
            go_wp2_with fail
            refine (HPR.out g HGB.out.1 _).mono ?_
            rintro e w5 ⟨rfl, rfl⟩
            go_wp2_with fail
            clear hgb
            by_cases h3 : (out ++ [(1, 3, 0, 0, 0)] ++ [(1, atI T L (f % 4294967296) 5, 0, 0, 0)]).length = fs.length
            · have HH3 := Lib.hid h3
              clear h3
              refine (Swap_last HT4.out HH3.out 3 f (turnI f g) 0).mono ?_
              rintro e w6 ⟨rfl, t6, o6⟩
              have HT6 := Lib.hid t6
              have HO6 := Lib.hid (HO4.out.trans o6)
              clear t6 o6
              go_wp2
              go_roundw
              case rel => exact .inr ⟨⟨3, f, g⟩, _, HM3.out.last (popA_3 T L f g) (by rw [HH3.out]; exact Nat.le_refl _), popI_n (by simp), by rw [popA_3]; rfl, HT6.out, HO6.out⟩
              case measure => rw [HL1.out, outLen_is HT6.out]; have := HM.out.len; simp; omega
            · obtain ⟨h, hh⟩ : ∃ h, fs[(out ++ [((1, 3, 0, 0, 0) : D)] ++ [(1, atI T L (f % 4294967296) 5, 0, 0, 0)]).length]? = some h := ⟨_, List.getElem?_eq_getElem (by have := HM3.out.len; omega)⟩
              have HM4 := Lib.hid (HM3.out.more (popA_3 T L f g) hh)
              have HHH := Lib.hid hh
              clear hh h3
              by_cases he : h = f
              · subst he
                refine (Swap_yes HT4.out HHH.out 3 (turnI h g) 0).mono ?_
                rintro e w6 ⟨rfl, t6, o6⟩
                have K := Lib.hid (HLESS.out _ _ _ t6 (HO4.out.trans o6))
                rw [popT_3] at HM4
                clear t6 o6
                go_wp2
                go_ret
                exact ⟨⟨0, h, g⟩, _, by rw [popI_0]; rfl, HM4.out.done (popA_0 T L h g), by rw [popA_0]; exact K.out.1, K.out.2⟩
              · rw [popT_3n he] at HM4
                have HNE := Lib.hid he
                clear he
                refine (Swap_no HT4.out HHH.out HNE.out 3 (turnI f g) 0).mono ?_
                rintro e w6 ⟨rfl, t6, o6⟩
                have HT6 := Lib.hid t6
                have HO6 := Lib.hid (HO4.out.trans o6)
                clear t6 o6
                go_wp2
                go_roundw
                case rel => exact .inl ⟨f, g, _, HM4.out, HT6.out, HO6.out⟩
                case measure => rw [HL1.out, outLen_is HT6.out]; have := HM4.out.len; simp at this ⊢; omega
    · have c2 := ht.stop
      have K := Lib.hid (HLESS.out _ _ _ ht hon)
      have HS := Lib.hid (And.intro hfin (And.intro hs hmo))
      clear ht hon hfin hs hmo
      go_wp2
      go_ret
      exact ⟨s, out, by rw [HS.out.2.1]; rfl, HS.out.1, by rw [HS.out.2.2]; exact K.out.1, K.out.2⟩

/-- What the document's giving back ends in. -/
def PushRan (P : Nat → Prop) (w : World) (x : Nat) (fs : List Int) (T L i : Int) (e : Ending) (w' : World) : Prop :=
  ∃ s out, e = .returned (.tuple #[]) ∧ Fin (pushA T L i) pushT fs ⟨1, 0, 0⟩ out s ∧ Tp P w' x fs out (pushA T L i s).isSome ∧ Only (fun k => ¬ P k) w w'
def PushHead (P : Nat → Prop) (w : World) (x : Nat) (fs : List Int) (T L i : Int) (wr : World) : Prop :=
  (∃ wa lo out, Mid (pushA T L i) pushT fs ⟨1, 0, 0⟩ out ⟨1, wa, lo⟩ ∧ Tp P wr x fs out false ∧ Only (fun k => ¬ P k) w wr) ∨
  (∃ s out, Fin (pushA T L i) pushT fs ⟨1, 0, 0⟩ out s ∧ (pushA T L i s).isSome = true ∧ Tp P wr x fs out true ∧ Only (fun k => ¬ P k) w wr)

theorem Push_run {P : Nat → Prop} {x : Nat} {w : World} {fs : List Int} (hT : Tp P w x fs [] false) (hf : ∀ f ∈ fs, 0 ≤ f ∧ f < 18446744073709551616) (T S L G i : Int) : Calls Tryd.prog 16 #[.pointer (some ⟨x, 0, none⟩), .agg #[.int .i64 T, .int .i64 S, .int .i64 L, .int .u64 G], .int .i64 i] w (PushRan P w x fs T L i) := by
  have HF := Lib.hid hf
  obtain ⟨P', hP'⟩ : ∃ P' : Nat → Prop, P' = fun k => P k ∨ k = w.heap.size := ⟨_, rfl⟩
  have HT := Lib.hid (show Tp P' (w.alloc (.cells #[.int .i64 T, .int .i64 S, .int .i64 L, .int .u64 G] 24)) x fs [] false from hP' ▸ hT.more _)
  have HLESS := Lib.hid (show ∀ (wr : World) out st, Tp P' wr x fs out st → Only (fun k => ¬ P' k) (w.alloc (.cells #[.int .i64 T, .int .i64 S, .int .i64 L, .int .u64 G] 24)) wr → Tp P wr x fs out st ∧ Only (fun k => ¬ P k) w wr from fun wr out st h1 h2 => by
    subst hP'
    exact ⟨h1.less fun k q => .inl q, (only_alloc w _ (.cells #[.int .i64 T, .int .i64 S, .int .i64 L, .int .u64 G] 24)).trans (h2.wide fun k q => .inl fun z => q (.inl z))⟩)
  have HN := Lib.hid (show ¬ (fun k => ¬ P' k) w.heap.size from fun q => q (by rw [hP']; exact .inr rfl))
  have HB := Lib.hid (box4 w (.int .i64 T) (.int .i64 S) (.int .i64 L) (.int .u64 G) 24)
  have HU := Lib.hid (show 0 ≤ IntKind.u64.wrap i by rw [IntKind.wrap_u64]; omega)
  have HTU := Lib.hid (show ∀ f, turnI f (IntKind.u64.wrap i) = turnI f i from fun f => by rw [IntKind.wrap_u64]; unfold turnI; omega)
  obtain ⟨c_0, c_1, c_2, c_3⟩ := HB.out
  clear hf hT hP'
  go_enter Tryd.func16, Tryd.ntmps16
  go_wp2
  clear c_0 c_1 c_2 c_3
  go_loopw [] (fun wr => PushHead P' (w.alloc (.cells #[.int .i64 T, .int .i64 S, .int .i64 L, .int .u64 G] 24)) x fs T L i wr) (fun wr => fs.length + 1 - outLen x wr)
  case atStart => exact .inl ⟨0, 0, [], Mid.start _ _, HT.out, Only.refl _ _⟩
  case round =>
    rcases hrel with ⟨wa, lo, out, hm, ht, hon⟩ | ⟨s, out, hfin, hmo, ht, hon⟩
    · have c2 := ht.stop
      have HM := Lib.hid hm
      have HON := Lib.hid hon
      have HT1 := Lib.hid ht
      have HL1 := Lib.hid (outLen_is ht)
      clear hm hon ht
      by_cases h1 : out.length = fs.length
      · have HH := Lib.hid h1
        clear h1
        go_wp2_with fail
        refine (Load_last HT1.out HH.out 3 0).mono ?_
        rintro e w1 ⟨rfl, t1, o1⟩
        have HT2 := Lib.hid t1
        have HO2 := Lib.hid (HON.out.trans o1)
        clear t1 o1 c2
        obtain ⟨c_0, c_1, c_2, c_3⟩ := plan4 HB.out HO2.out HN.out
        go_wp2_with fail
        refine (PlanRef.Slot_any T S L G i 5 _).mono ?_
        rintro e w2 ⟨rfl, b2⟩
        have HT3 := Lib.hid (HT2.out.later b2)
        have HO3 := Lib.hid (HO2.out.then_below b2)
        clear b2 c_0 c_1 c_2 c_3
        go_wp2_with fail
        refine (Store_stop HT3.out (atI T L i 5) 0 0).mono ?_
        rintro e w3 ⟨rfl, rfl⟩
        go_wp2_with fail
        refine (R01.High_any 0 (by decide) (by decide) _).mono ?_
        rintro e w4 ⟨rfl, rfl⟩
        go_wp2_with fail
        refine (R01.Pair_any 1 (IntKind.u64.wrap i) (by decide) HU.out _).mono ?_
        rintro e w5 ⟨rfl, rfl⟩
        go_wp2_with fail
        refine (Swap_stop HT3.out 3 0 _ 0).mono ?_
        rintro e w6 ⟨rfl, rfl⟩
        go_wp2
        go_roundw
        case rel => exact .inr ⟨⟨1, wa, lo⟩, _, HM.out.last (pushA_1 T L i wa lo) (by rw [HH.out]; exact Nat.le_refl _), by rw [pushA_1]; rfl, HT3.out, HO3.out⟩
        case measure => rw [HL1.out, outLen_is HT3.out]; have := HM.out.len; simp; omega
      · obtain ⟨f, hf⟩ : ∃ f, fs[out.length]? = some f := ⟨_, List.getElem?_eq_getElem (by have := HM.out.len; omega)⟩
        obtain ⟨f0, f1⟩ := HF.out f (List.mem_of_getElem? hf)
        have HZ := Lib.hid (show Mid (pushA T L i) pushT fs ⟨1, 0, 0⟩ (out ++ [(1, 3, 0, 0, 0)]) ⟨2, f, lo⟩ from pushT_1 wa lo f ▸ HM.out.more (pushA_1 T L i wa lo) hf)
        have HFF := Lib.hid hf
        clear hf h1
        go_wp2_with fail
        refine (Load_more HT1.out HFF.out 3 0).mono ?_
        rintro e w1 ⟨rfl, t1, o1⟩
        have HT2 := Lib.hid t1
        have HO2 := Lib.hid (HON.out.trans o1)
        clear t1 o1 c2
        obtain ⟨c_0, c_1, c_2, c_3⟩ := plan4 HB.out HO2.out HN.out
        have HFB := Lib.hid (And.intro f0 f1)
        have HQB := Lib.hid (show 0 ≤ f / 4294967296 ∧ f / 4294967296 < 4294967296 by omega)
        have hqb := HQB.out
        have HPR := Lib.hid (show ∀ W : World, Calls Tryd.prog 30 #[.int .u64 (f / 4294967296 + 1), .int .u64 (IntKind.u64.wrap i)] W fun e w' => e = .returned (.int .u64 (turnI f i)) ∧ W = w' from fun W => by
          rw [← HTU.out]
          exact R01.Pair_any (f / 4294967296 + 1) (IntKind.u64.wrap i) (by have := HQB.out; omega) HU.out W)
        clear f0 f1
        go_wp2_with fail
        refine (PlanRef.Slot_any T S L G i 5 _).mono ?_
        rintro e w2 ⟨rfl, b2⟩
        have HT3 := Lib.hid (HT2.out.later b2)
        have HO3 := Lib.hid (HO2.out.then_below b2)
        clear b2 c_0 c_1 c_2 c_3
        by_cases h2 : (out ++ [(1, 3, 0, 0, 0)]).length = fs.length
        · have HH2 := Lib.hid h2
          clear h2
          go_wp2_with fail
          refine (Store_last HT3.out HH2.out (atI T L i 5) (f % 4294967296) 0).mono ?_
          rintro e w3 ⟨rfl, t3, o3⟩
          have HT4 := Lib.hid t3
          have HO4 := Lib.hid (HO3.out.trans o3)
          clear t3 o3
          go_wp2_with fail
          refine (R01.High_any f HFB.out.1 HFB.out.2 _).mono ?_
          rintro e w4 ⟨rfl, rfl⟩
          go_wp2_with fail
          refine (HPR.out _).mono ?_
          rintro e w5 ⟨rfl, rfl⟩
          go_wp2_with fail
          refine (Swap_stop HT4.out 3 f (turnI f i) 0).mono ?_
          rintro e w6 ⟨rfl, rfl⟩
          go_wp2
          go_roundw
          case rel => exact .inr ⟨⟨2, f, lo⟩, _, HZ.out.last (pushA_2 T L i f lo) (by rw [HH2.out]; exact Nat.le_refl _), by rw [pushA_2]; rfl, HT4.out, HO4.out⟩
          case measure => rw [HL1.out, outLen_is HT4.out]; have := HM.out.len; simp; omega
        · obtain ⟨g, hg⟩ : ∃ g, fs[(out ++ [((1, 3, 0, 0, 0) : D)]).length]? = some g := ⟨_, List.getElem?_eq_getElem (by have := HZ.out.len; omega)⟩
          have HM3 := Lib.hid (show Mid (pushA T L i) pushT fs ⟨1, 0, 0⟩ (out ++ [(1, 3, 0, 0, 0)] ++ [(2, atI T L i 5, f % 4294967296, 0, 0)]) ⟨3, f, lo⟩ from pushT_2 f lo g ▸ HZ.out.more (pushA_2 T L i f lo) hg)
          have HGG := Lib.hid hg
          clear hg h2
          go_wp2_with fail
          refine (Store_more HT3.out HGG.out (atI T L i 5) (f % 4294967296) 0).mono ?_
          rintro e w3 ⟨rfl, t3, o3⟩
          have HT4 := Lib.hid t3
          have HO4 := Lib.hid (HO3.out.trans o3)
          clear t3 o3
          go_wp2_with fail
          refine (R01.High_any f HFB.out.1 HFB.out.2 _).mono ?_
          rintro e w4 ⟨rfl, rfl⟩
          go_wp2_with fail
          refine (HPR.out _).mono ?_
          rintro e w5 ⟨rfl, rfl⟩
          go_wp2_with fail
          by_cases h3 : (out ++ [(1, 3, 0, 0, 0)] ++ [(2, atI T L i 5, f % 4294967296, 0, 0)]).length = fs.length
          · have HH3 := Lib.hid h3
            clear h3
            refine (Swap_last HT4.out HH3.out 3 f (turnI f i) 0).mono ?_
            rintro e w6 ⟨rfl, t6, o6⟩
            have HT6 := Lib.hid t6
            have HO6 := Lib.hid (HO4.out.trans o6)
            clear t6 o6
            go_wp2
            go_roundw
            case rel => exact .inr ⟨⟨3, f, lo⟩, _, HM3.out.last (pushA_3 T L i f lo) (by rw [HH3.out]; exact Nat.le_refl _), by rw [pushA_3]; rfl, HT6.out, HO6.out⟩
            case measure => rw [HL1.out, outLen_is HT6.out]; have := HM.out.len; simp; omega
          · obtain ⟨h, hh⟩ : ∃ h, fs[(out ++ [((1, 3, 0, 0, 0) : D)] ++ [(2, atI T L i 5, f % 4294967296, 0, 0)]).length]? = some h := ⟨_, List.getElem?_eq_getElem (by have := HM3.out.len; omega)⟩
            have HM4 := Lib.hid (HM3.out.more (pushA_3 T L i f lo) hh)
            have HHH := Lib.hid hh
            clear hh h3
            by_cases he : h = f
            · subst he
              refine (Swap_yes HT4.out HHH.out 3 (turnI h i) 0).mono ?_
              rintro e w6 ⟨rfl, t6, o6⟩
              have K := Lib.hid (HLESS.out _ _ _ t6 (HO4.out.trans o6))
              rw [pushT_3] at HM4
              clear t6 o6
              go_wp2
              refine bodyPost_end (results_none rfl _ _ _) rfl ?_
              exact ⟨⟨0, h, lo⟩, _, rfl, HM4.out.done (pushA_0 T L i h lo), by rw [pushA_0]; exact K.out.1, K.out.2⟩
            · rw [pushT_3n he] at HM4
              have HNE := Lib.hid he
              clear he
              refine (Swap_no HT4.out HHH.out HNE.out 3 (turnI f i) 0).mono ?_
              rintro e w6 ⟨rfl, t6, o6⟩
              have HT6 := Lib.hid t6
              have HO6 := Lib.hid (HO4.out.trans o6)
              clear t6 o6
              go_wp2
              go_roundw
              case rel => exact .inl ⟨f, lo, _, HM4.out, HT6.out, HO6.out⟩
              case measure => rw [HL1.out, outLen_is HT6.out]; have := HM4.out.len; simp at this ⊢; omega
    · have c2 := ht.stop
      have K := Lib.hid (HLESS.out _ _ _ ht hon)
      have HS := Lib.hid (And.intro hfin hmo)
      clear ht hon hfin hmo
      go_wp2
      refine bodyPost_end (results_none rfl _ _ _) rfl ?_
      exact ⟨s, out, rfl, HS.out.1, by rw [HS.out.2]; exact K.out.1, K.out.2⟩
end Go.Proofs.YtmeghmlojnbmbaaDoor.PoolRef

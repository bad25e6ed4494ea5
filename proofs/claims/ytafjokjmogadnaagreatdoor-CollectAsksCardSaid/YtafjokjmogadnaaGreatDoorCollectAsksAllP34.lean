import Derived.Test.YtafjokjmogadnaaGreatDoorCollectAsksAllP31
import Derived.Test.YtafjokjmogadnaaGreatDoorCollectAsksAllP32
import Derived.Test.YtafjokjmogadnaaGreatDoorCollectAsksAllP1
import Derived.Test.YtafjokjmogadnaaGreatDoorCollectAsksAllP33
/- The document's answers for layer 12 (package sundialref12), on a tape that holds deeds already, or has stopped: just what the tasks ask for. -/
namespace Go.Proofs.YtafjokjmogadnaaGreatDoor.PoolRuns
set_option maxRecDepth 20000
open Go.ChangeShapes Go.WideShapes Go.RowKit CM DM PM PoM Runs Lay Plan Go.Proofs.YtafjokjmogadnaaGreatDoor.Task Go.Proofs.YtafjokjmogadnaaGreatDoor.Tape
set_option linter.unusedVariables false
set_option linter.unusedSimpArgs false

/-- How many deeds a tape holds, read off the world. -/
def outLen (x : Nat) (w : World) : Nat := match w.cell? ⟨x, 1, none⟩ with | some (.slice _ n _) => n | _ => 0
theorem outLen_is {P : Nat → Prop} {w : World} {x : Nat} {fs : List Int} {out : List D} {st : Bool} (h : Tp P w x fs out st) : outLen x w = out.length := by
  obtain ⟨O, oc, h1, _⟩ := h.row
  unfold outLen
  rw [h1]
theorem plan4 {w w' : World} {N : Nat} {R : Nat → Prop} {T S L G : Int} (h : w.cell? ⟨N, 0, none⟩ = some (.int .i64 T) ∧ w.cell? ⟨N, 1, none⟩ = some (.int .i64 S) ∧ w.cell? ⟨N, 2, none⟩ = some (.int .i64 L) ∧ w.cell? ⟨N, 3, none⟩ = some (.int .u64 G)) (ho : Only R w w') (hr : ¬ R N) :
    w'.cell? ⟨N, 0, none⟩ = some (.int .i64 T) ∧ w'.cell? ⟨N, 1, none⟩ = some (.int .i64 S) ∧ w'.cell? ⟨N, 2, none⟩ = some (.int .i64 L) ∧ w'.cell? ⟨N, 3, none⟩ = some (.int .u64 G) :=
  ⟨ho.cell h.1 hr, ho.cell h.2.1 hr, ho.cell h.2.2.1 hr, ho.cell h.2.2.2 hr⟩

/-- What the document's taking ends in. -/
def PopRan (P : Nat → Prop) (w : World) (x : Nat) (fs : List Int) (pre : List D) (T L : Int) (e : Ending) (w' : World) : Prop :=
  ∃ s out, e = .returned (.int .i64 (popI s)) ∧ Fins (popA T L) popT fs pre ⟨1, 0, 0⟩ out s ∧ Tp P w' x fs out (popA T L s).isSome ∧ Only (fun k => ¬ P k) w w'
/-- In amid the tries. -/
def PopHead (P : Nat → Prop) (w : World) (x : Nat) (fs : List Int) (pre : List D) (T L : Int) (wr : World) : Prop :=
  (∃ wa lo out, Amid (popA T L) popT fs pre ⟨1, 0, 0⟩ out ⟨1, wa, lo⟩ ∧ Tp P wr x fs out false ∧ Only (fun k => ¬ P k) w wr) ∨
  (∃ s out, Fins (popA T L) popT fs pre ⟨1, 0, 0⟩ out s ∧ popI s = 0 ∧ (popA T L s).isSome = true ∧ Tp P wr x fs out true ∧ Only (fun k => ¬ P k) w wr)


/-- What the document's giving back ends in. -/
def PushRan (P : Nat → Prop) (w : World) (x : Nat) (fs : List Int) (pre : List D) (T L i : Int) (e : Ending) (w' : World) : Prop :=
  ∃ s out, e = .returned (.tuple #[]) ∧ Fins (pushA T L i) pushT fs pre ⟨1, 0, 0⟩ out s ∧ Tp P w' x fs out (pushA T L i s).isSome ∧ Only (fun k => ¬ P k) w w'
def PushHead (P : Nat → Prop) (w : World) (x : Nat) (fs : List Int) (pre : List D) (T L i : Int) (wr : World) : Prop :=
  (∃ wa lo out, Amid (pushA T L i) pushT fs pre ⟨1, 0, 0⟩ out ⟨1, wa, lo⟩ ∧ Tp P wr x fs out false ∧ Only (fun k => ¬ P k) w wr) ∨
  (∃ s out, Fins (pushA T L i) pushT fs pre ⟨1, 0, 0⟩ out s ∧ (pushA T L i s).isSome = true ∧ Tp P wr x fs out true ∧ Only (fun k => ¬ P k) w wr)

theorem Push_runs {P : Nat → Prop} {x : Nat} {w : World} {fs : List Int} {pre : List D} (hT : Tp P w x fs pre false) (hle : pre.length ≤ fs.length) (hf : ∀ f ∈ fs, 0 ≤ f ∧ f < 18446744073709551616) (T S L G i : Int) : Calls Tryz.prog 58 #[.pointer (some ⟨x, 0, none⟩), .agg #[.int .i64 T, .int .i64 S, .int .i64 L, .int .u64 G], .int .i64 i] w (PushRan P w x fs pre T L i) := by
  have HF := Lib.hid hf
  have HLE := Lib.hid hle
  obtain ⟨P', hP'⟩ : ∃ P' : Nat → Prop, P' = fun k => P k ∨ k = w.heap.size := ⟨_, rfl⟩
  have HT := Lib.hid (show Tp P' (w.alloc (.cells #[.int .i64 T, .int .i64 S, .int .i64 L, .int .u64 G] 24)) x fs pre false from hP' ▸ hT.more _)
  have HLESS := Lib.hid (show ∀ (wr : World) out st, Tp P' wr x fs out st → Only (fun k => ¬ P' k) (w.alloc (.cells #[.int .i64 T, .int .i64 S, .int .i64 L, .int .u64 G] 24)) wr → Tp P wr x fs out st ∧ Only (fun k => ¬ P k) w wr from fun wr out st h1 h2 => by
    subst hP'
    exact ⟨h1.less fun k q => .inl q, (only_alloc w _ (.cells #[.int .i64 T, .int .i64 S, .int .i64 L, .int .u64 G] 24)).trans (h2.wide fun k q => .inl fun z => q (.inl z))⟩)
  have HN := Lib.hid (show ¬ (fun k => ¬ P' k) w.heap.size from fun q => q (by rw [hP']; exact .inr rfl))
  have HB := Lib.hid (box4 w (.int .i64 T) (.int .i64 S) (.int .i64 L) (.int .u64 G) 24)
  have HU := Lib.hid (show 0 ≤ IntKind.u64.wrap i by rw [IntKind.wrap_u64]; omega)
  have HTU := Lib.hid (show ∀ f, turnI f (IntKind.u64.wrap i) = turnI f i from fun f => by rw [IntKind.wrap_u64]; unfold turnI; omega)
  obtain ⟨c_0, c_1, c_2, c_3⟩ := HB.out
  clear hf hT hP' hle
  go_enter Tryz.func58, Tryz.ntmps58
  go_wp2
  clear c_0 c_1 c_2 c_3
  go_loopw [] (fun wr => PushHead P' (w.alloc (.cells #[.int .i64 T, .int .i64 S, .int .i64 L, .int .u64 G] 24)) x fs pre T L i wr) (fun wr => fs.length + 1 - outLen x wr)
  case atStart => exact .inl ⟨0, 0, pre, Amid.start HLE.out _, HT.out, Only.refl _ _⟩
  case round =>
    rcases hrel with ⟨wa, lo, out, hm, ht, hon⟩ | ⟨s, out, hfin, hmo, ht, hon⟩
    · have c2 := ht.stop
      have HM := Lib.hid hm
      have HON := Lib.hid hon
      have HT1 := Lib.hid ht
      have HL1 := Lib.hid (outLen_is ht)
      clear hm hon ht
      by_cases h1 : out.length = fs.length
      · have HH := Lib.hid h1
        clear h1
        go_wp2_with fail
        refine (Load_last HT1.out HH.out 3 0).mono ?_
        rintro e w1 ⟨rfl, t1, o1⟩
        have HT2 := Lib.hid t1
        have HO2 := Lib.hid (HON.out.trans o1)
        clear t1 o1 c2
        obtain ⟨c_0, c_1, c_2, c_3⟩ := plan4 HB.out HO2.out HN.out
        go_wp2_with fail
        refine (PlanRef.Slot_any T S L G i 5 _).mono ?_
        rintro e w2 ⟨rfl, b2⟩
        have HT3 := Lib.hid (HT2.out.later b2)
        have HO3 := Lib.hid (HO2.out.then_below b2)
        clear b2 c_0 c_1 c_2 c_3
        go_wp2_with fail
        refine (Store_stop HT3.out (atI T L i 5) 0 0).mono ?_
        rintro e w3 ⟨rfl, rfl⟩
        go_wp2_with fail
        refine (R01.High_any 0 (by decide) (by decide) _).mono ?_
        rintro e w4 ⟨rfl, rfl⟩
        go_wp2_with fail
        refine (R01.Pair_any 1 (IntKind.u64.wrap i) (by decide) HU.out _).mono ?_
        rintro e w5 ⟨rfl, rfl⟩
        go_wp2_with fail
        refine (Swap_stop HT3.out 3 0 _ 0).mono ?_
        rintro e w6 ⟨rfl, rfl⟩
        go_wp2
        go_roundw
        case rel => exact .inr ⟨⟨1, wa, lo⟩, _, HM.out.last (pushA_1 T L i wa lo) (by rw [HH.out]; exact Nat.le_refl _), by rw [pushA_1]; rfl, HT3.out, HO3.out⟩
        case measure => rw [HL1.out, outLen_is HT3.out]; have := HM.out.len; simp; omega
      · obtain ⟨f, hf⟩ : ∃ f, fs[out.length]? = some f := ⟨_, List.getElem?_eq_getElem (by have := HM.out.len; omega)⟩
        obtain ⟨f0, f1⟩ := HF.out f (List.mem_of_getElem? hf)
        have HZ := Lib.hid (show Amid (pushA T L i) pushT fs pre ⟨1, 0, 0⟩ (out ++ [(1, 3, 0, 0, 0)]) ⟨2, f, lo⟩ from pushT_1 wa lo f ▸ HM.out.more (pushA_1 T L i wa lo) hf)
        have HFF := Lib.hid hf
        clear hf h1
        go_wp2_with fail
        refine (Load_more HT1.out HFF.out 3 0).mono ?_
        rintro e w1 ⟨rfl, t1, o1⟩
        have HT2 := Lib.hid t1
        have HO2 := Lib.hid (HON.out.trans o1)
        clear t1 o1 c2
        obtain ⟨c_0, c_1, c_2, c_3⟩ := plan4 HB.out HO2.out HN.out
        have HFB := Lib.hid (And.intro f0 f1)
        have HQB := Lib.hid (show 0 ≤ f / 4294967296 ∧ f / 4294967296 < 4294967296 by omega)
        have hqb := HQB.out
        have HPR := Lib.hid (show ∀ W : World, Calls Tryz.prog 91 #[.int .u64 (f / 4294967296 + 1), .int .u64 (IntKind.u64.wrap i)] W fun e w' => e = .returned (.int .u64 (turnI f i)) ∧ W = w' from fun W => by
          rw [← HTU.out]
          exact R01.Pair_any (f / 4294967296 + 1) (IntKind.u64.wrap i) (by have := HQB.out; omega) HU.out W)
        clear f0 f1
        go_wp2_with fail
        refine (PlanRef.Slot_any T S L G i 5 _).mono ?_
        rintro e w2 ⟨rfl, b2⟩
        have HT3 := Lib.hid (HT2.out.later b2)
        have HO3 := Lib.hid (HO2.out.then_below b2)
        clear b2 c_0 c_1 c_2 c_3
        by_cases h2 : (out ++ [(1, 3, 0, 0, 0)]).length = fs.length
        · have HH2 := Lib.hid h2
          clear h2
          go_wp2_with fail
          refine (Store_last HT3.out HH2.out (atI T L i 5) (f % 4294967296) 0).mono ?_
          rintro e w3 ⟨rfl, t3, o3⟩
          have HT4 := Lib.hid t3
          have HO4 := Lib.hid (HO3.out.trans o3)
          clear t3 o3
          go_wp2_with fail
          refine (R01.High_any f HFB.out.1 HFB.out.2 _).mono ?_
          rintro e w4 ⟨rfl, rfl⟩
          go_wp2_with fail
          refine (HPR.out _).mono ?_
          rintro e w5 ⟨rfl, rfl⟩
          go_wp2_with fail
          refine (Swap_stop HT4.out 3 f (turnI f i) 0).mono ?_
          rintro e w6 ⟨rfl, rfl⟩
          go_wp2
          go_roundw
          case rel => exact .inr ⟨⟨2, f, lo⟩, _, HZ.out.last (pushA_2 T L i f lo) (by rw [HH2.out]; exact Nat.le_refl _), by rw [pushA_2]; rfl, HT4.out, HO4.out⟩
          case measure => rw [HL1.out, outLen_is HT4.out]; have := HM.out.len; simp; omega
        · obtain ⟨g, hg⟩ : ∃ g, fs[(out ++ [((1, 3, 0, 0, 0) : D)]).length]? = some g := ⟨_, List.getElem?_eq_getElem (by have := HZ.out.len; omega)⟩
          have HM3 := Lib.hid (show Amid (pushA T L i) pushT fs pre ⟨1, 0, 0⟩ (out ++ [(1, 3, 0, 0, 0)] ++ [(2, atI T L i 5, f % 4294967296, 0, 0)]) ⟨3, f, lo⟩ from pushT_2 f lo g ▸ HZ.out.more (pushA_2 T L i f lo) hg)
          have HGG := Lib.hid hg
          clear hg h2
          go_wp2_with fail
          refine (Store_more HT3.out HGG.out (atI T L i 5) (f % 4294967296) 0).mono ?_
          rintro e w3 ⟨rfl, t3, o3⟩
          have HT4 := Lib.hid t3
          have HO4 := Lib.hid (HO3.out.trans o3)
          clear t3 o3
          go_wp2_with fail
          refine (R01.High_any f HFB.out.1 HFB.out.2 _).mono ?_
          rintro e w4 ⟨rfl, rfl⟩
          go_wp2_with fail
          refine (HPR.out _).mono ?_
          rintro e w5 ⟨rfl, rfl⟩
          go_wp2_with fail
          by_cases h3 : (out ++ [(1, 3, 0, 0, 0)] ++ [(2, atI T L i 5, f % 4294967296, 0, 0)]).length = fs.length
          · have HH3 := Lib.hid h3
            clear h3
            refine (Swap_last HT4.out HH3.out 3 f (turnI f i) 0).mono ?_
            rintro e w6 ⟨rfl, t6, o6⟩
            have HT6 := Lib.hid t6
            have HO6 := Lib.hid (HO4.out.trans o6)
            clear t6 o6
            go_wp2
            go_roundw
            case rel => exact .inr ⟨⟨3, f, lo⟩, _, HM3.out.last (pushA_3 T L i f lo) (by rw [HH3.out]; exact Nat.le_refl _), by rw [pushA_3]; rfl, HT6.out, HO6.out⟩
            case measure => rw [HL1.out, outLen_is HT6.out]; have := HM.out.len; simp; omega
          · obtain ⟨h, hh⟩ : ∃ h, fs[(out ++ [((1, 3, 0, 0, 0) : D)] ++ [(2, atI T L i 5, f % 4294967296, 0, 0)]).length]? = some h := ⟨_, List.getElem?_eq_getElem (by have := HM3.out.len; omega)⟩
            have HM4 := Lib.hid (HM3.out.more (pushA_3 T L i f lo) hh)
            have HHH := Lib.hid hh
            clear hh h3
            by_cases he : h = f
            · subst he
              refine (Swap_yes HT4.out HHH.out 3 (turnI h i) 0).mono ?_
              rintro e w6 ⟨rfl, t6, o6⟩
              have K := Lib.hid (HLESS.out _ _ _ t6 (HO4.out.trans o6))
              rw [pushT_3] at HM4
              clear t6 o6
              go_wp2
              refine bodyPost_end (results_none rfl _ _ _) rfl ?_
              exact ⟨⟨0, h, lo⟩, _, rfl, HM4.out.done (pushA_0 T L i h lo), by rw [pushA_0]; exact K.out.1, K.out.2⟩
            · rw [pushT_3n he] at HM4
              have HNE := Lib.hid he
              clear he
              refine (Swap_no HT4.out HHH.out HNE.out 3 (turnI f i) 0).mono ?_
              rintro e w6 ⟨rfl, t6, o6⟩
              have HT6 := Lib.hid t6
              have HO6 := Lib.hid (HO4.out.trans o6)
              clear t6 o6
              go_wp2
              go_roundw
              case rel => exact .inl ⟨f, lo, _, HM4.out, HT6.out, HO6.out⟩
              case measure => rw [HL1.out, outLen_is HT6.out]; have := HM4.out.len; simp at this ⊢; omega
    · have c2 := ht.stop
      have K := Lib.hid (HLESS.out _ _ _ ht hon)
      have HS := Lib.hid (And.intro hfin hmo)
      clear ht hon hfin hmo
      go_wp2
      refine bodyPost_end (results_none rfl _ _ _) rfl ?_
      exact ⟨s, out, rfl, HS.out.1, by rw [HS.out.2]; exact K.out.1, K.out.2⟩
/-- On a tape that has stopped. -/
theorem Push_stop {P : Nat → Prop} {x : Nat} {w : World} {fs : List Int} {out : List D} (hT : Tp P w x fs out true) (T S L G i : Int) : Calls Tryz.prog 58 #[.pointer (some ⟨x, 0, none⟩), .agg #[.int .i64 T, .int .i64 S, .int .i64 L, .int .u64 G], .int .i64 i] w fun e w' => e = .returned (.tuple #[]) ∧ Below w.heap.size w w' := by
  have c2 := (hT.later (box_below w (.cells #[.int .i64 T, .int .i64 S, .int .i64 L, .int .u64 G] 24))).stop
  have HB := Lib.hid (box_below w (.cells #[.int .i64 T, .int .i64 S, .int .i64 L, .int .u64 G] 24))
  clear hT
  go_enter Tryz.func58, Tryz.ntmps58
  go_wp2
  go_loopw [] (fun wr => wr = w.alloc (.cells #[.int .i64 T, .int .i64 S, .int .i64 L, .int .u64 G] 24)) (fun _ => 0)
  case atStart => rfl
  case round =>
    subst hrel
    go_wp2
    refine bodyPost_end (results_none rfl _ _ _) rfl ?_
    exact ⟨rfl, HB.out⟩
end Go.Proofs.YtafjokjmogadnaaGreatDoor.PoolRuns

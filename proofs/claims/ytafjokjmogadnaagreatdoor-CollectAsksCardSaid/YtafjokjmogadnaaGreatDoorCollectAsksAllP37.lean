import Derived.Test.YtafjokjmogadnaaGreatDoorCollectAsksAllP34
import Derived.Test.YtafjokjmogadnaaGreatDoorCollectAsksAllP1
import Derived.Test.YtafjokjmogadnaaGreatDoorCollectAsksAllP35
import Derived.Test.YtafjokjmogadnaaGreatDoorCollectAsksAllP36
/- The document's answer for layer 16 (package sundialref16), on a tape that holds deeds already: just what a giver asks for. -/
namespace Go.Proofs.YtafjokjmogadnaaGreatDoor.GiveRef
set_option maxRecDepth 20000
open Go.ChangeShapes Go.WideShapes Go.RowKit CM DM PM GiM Runs Lay Plan Go.Proofs.YtafjokjmogadnaaGreatDoor.Task Go.Proofs.YtafjokjmogadnaaGreatDoor.Tape
open PoM (pushA pushT)
open SM (stI stI_lo stI_hi)
open Go.Proofs.YtafjokjmogadnaaGreatDoor.PoolRuns (plan4 Push_runs Push_stop PushRan)
set_option linter.unusedVariables false
set_option linter.unusedSimpArgs false

/-- What it ends in. -/
def GiveRan (P : Nat → Prop) (w : World) (x : Nat) (fs : List Int) (pre : List D) (T L i X g : Int) (e : Ending) (w' : World) : Prop :=
  ∃ s out, e = .returned (.tuple #[]) ∧ Fins (giveA T L i X) giveT fs pre (init g) out s ∧ Tp P w' x fs out (giveA T L i X s).isSome ∧ Only (fun k => ¬ P k) w w'
theorem Give_runs {P : Nat → Prop} {x : Nat} {w : World} {fs : List Int} {pre : List D} (hT : Tp P w x fs pre false) (hle : pre.length ≤ fs.length) (hf : ∀ f ∈ fs, 0 ≤ f ∧ f < 18446744073709551616) (T N L G r : Int) (h0 : 0 ≤ r) (h1 : r < 18446744073709551616) :
    Calls Tryz.prog 31 #[.pointer (some ⟨x, 0, none⟩), .agg #[.int .i64 T, .int .i64 N, .int .i64 L, .int .u64 G], .int .u64 r] w (GiveRan P w x fs pre T L (r % 4294967296 / 2) (wordI (r / 4294967296)) (r / 4294967296)) := by
  have HF := Lib.hid hf
  have HLE := Lib.hid hle
  obtain ⟨P', hP'⟩ : ∃ P' : Nat → Prop, P' = fun k => P k ∨ k = w.heap.size := ⟨_, rfl⟩
  have HT := Lib.hid (show Tp P' (w.alloc (.cells #[.int .i64 T, .int .i64 N, .int .i64 L, .int .u64 G] 24)) x fs pre false from hP' ▸ hT.more _)
  have HLESS := Lib.hid (show ∀ (wr : World) out st, Tp P' wr x fs out st → Only (fun k => ¬ P' k) (w.alloc (.cells #[.int .i64 T, .int .i64 N, .int .i64 L, .int .u64 G] 24)) wr → Tp P wr x fs out st ∧ Only (fun k => ¬ P k) w wr from fun wr out st h1 h2 => by
    subst hP'
    exact ⟨h1.less fun k q => .inl q, (only_alloc w _ (.cells #[.int .i64 T, .int .i64 N, .int .i64 L, .int .u64 G] 24)).trans (h2.wide fun k q => .inl fun z => q (.inl z))⟩)
  have HN := Lib.hid (show ¬ (fun k => ¬ P' k) w.heap.size from fun q => q (by rw [hP']; exact .inr rfl))
  have HB := Lib.hid (box4 w (.int .i64 T) (.int .i64 N) (.int .i64 L) (.int .u64 G) 24)
  have hgb : 0 ≤ r / 4294967296 ∧ r / 4294967296 ≤ 4294967295 := by omega
  have HGEN := Lib.hid (Ref02.Gen_any r h0 h1)
  have HIX := Lib.hid (Ref02.Index_any r h0 h1)
  have HOF := Lib.hid (Ref04.Of_any (r / 4294967296) 0 hgb.1)
  have HNX := Lib.hid (Ref04.Next_any (stI (r / 4294967296) 0) (stI_lo _ _) (stI_hi _ _))
  have HX := Lib.hid (word_any hgb.1 hgb.2 0 (by decide) (by decide))
  rw [HX.out] at HNX
  clear HX
  obtain ⟨c_0, c_1, c_2, c_3⟩ := HB.out
  generalize r / 4294967296 = g at HGEN HOF HNX hgb ⊢
  generalize r % 4294967296 / 2 = i at HIX ⊢
  generalize wordI g = X at HNX ⊢
  generalize stI g 0 = y at HOF HNX
  clear hf hT hP' hle h0 h1
  by_cases hg : g = 4294967295
  · subst hg
    clear hgb
    go_enter Tryz.func31, Tryz.ntmps31
    go_wp2_with fail
    refine (HGEN.out _).mono ?_
    rintro e w' ⟨rfl, rfl⟩
    go_wp2_with fail
    refine (HIX.out _).mono ?_
    rintro e w' ⟨rfl, rfl⟩
    go_wp2_with fail
    refine (PlanRef.Slot_any T N L G i 0 _).mono ?_
    rintro e w' ⟨rfl, b1⟩
    have HT1 := Lib.hid (HT.out.later b1)
    have HO1 := Lib.hid (only_below (fun k => ¬ P' k) b1)
    clear b1 c_0 c_1 c_2 c_3
    go_wp2_with fail
    refine (HOF.out _).mono ?_
    rintro e w' ⟨rfl, rfl⟩
    go_wp2_with fail
    refine (HNX.out _).mono ?_
    rintro e w' ⟨rfl, rfl⟩
    go_wp2_with fail
    by_cases h1 : pre.length = fs.length
    · have HH := Lib.hid h1
      clear h1
      refine (Store_last HT1.out HH.out (atI T L i 0) X 0).mono ?_
      rintro e w3 ⟨rfl, t3, o3⟩
      have K := Lib.hid (HLESS.out _ _ _ t3 (HO1.out.trans o3))
      clear t3 o3
      go_wp2
      refine bodyPost_end (results_none rfl _ _ _) rfl ?_
      exact ⟨_, _, rfl, (Amid.start HLE.out _).last (giveA_1 T L i X _) (by rw [HH.out]; exact Nat.le_refl _), K.out.1, K.out.2⟩
    · obtain ⟨f, hf⟩ : ∃ f, fs[pre.length]? = some f := ⟨_, List.getElem?_eq_getElem (by have := HLE.out; omega)⟩
      have HFF := Lib.hid hf
      clear hf h1
      refine (Store_more HT1.out HFF.out (atI T L i 0) X 0).mono ?_
      rintro e w3 ⟨rfl, t3, o3⟩
      have K := Lib.hid (HLESS.out _ _ _ t3 (HO1.out.trans o3))
      clear t3 o3
      go_wp2
      refine bodyPost_end (results_none rfl _ _ _) rfl ?_
      exact ⟨_, _, rfl, ((Amid.start HLE.out _).more (giveA_1 T L i X _) HFF.out).done (giveA_n T L i X), K.out.1, K.out.2⟩
  · unfold GiveRan
    rw [init_some hg]
    have hlt : g < 4294967295 := by omega
    clear hg
    go_enter Tryz.func31, Tryz.ntmps31
    go_wp2_with fail
    refine (HGEN.out _).mono ?_
    rintro e w' ⟨rfl, rfl⟩
    go_wp2_with fail
    refine (HIX.out _).mono ?_
    rintro e w' ⟨rfl, rfl⟩
    go_wp2_with fail
    refine (PlanRef.Slot_any T N L G i 0 _).mono ?_
    rintro e w' ⟨rfl, b1⟩
    have HT1 := Lib.hid (HT.out.later b1)
    have HO1 := Lib.hid (only_below (fun k => ¬ P' k) b1)
    clear b1 c_0 c_1 c_2 c_3
    go_wp2_with fail
    refine (HOF.out _).mono ?_
    rintro e w' ⟨rfl, rfl⟩
    go_wp2_with fail
    refine (HNX.out _).mono ?_
    rintro e w' ⟨rfl, rfl⟩
    go_wp2_with fail
    by_cases h1 : pre.length = fs.length
    · have HH := Lib.hid h1
      clear h1
      refine (Store_last HT1.out HH.out (atI T L i 0) X 0).mono ?_
      rintro e w3 ⟨rfl, t3, o3⟩
      have HT3 := Lib.hid t3
      have HO3 := Lib.hid (HO1.out.trans o3)
      clear t3 o3
      obtain ⟨c_0, c_1, c_2, c_3⟩ := plan4 HB.out HO3.out HN.out
      go_wp2_with fail
      refine (Push_stop HT3.out T N L G i).mono ?_
      rintro e w4 ⟨rfl, b4⟩
      have K := Lib.hid (HLESS.out _ _ _ (HT3.out.later b4) (HO3.out.then_below b4))
      clear b4 c_0 c_1 c_2 c_3
      go_wp2
      refine bodyPost_end (results_none rfl _ _ _) rfl ?_
      exact ⟨_, _, rfl, (Amid.start HLE.out _).last (giveA_1 T L i X _) (by rw [HH.out]; exact Nat.le_refl _), K.out.1, K.out.2⟩
    · obtain ⟨f, hf⟩ : ∃ f, fs[pre.length]? = some f := ⟨_, List.getElem?_eq_getElem (by have := HLE.out; omega)⟩
      have HFF := Lib.hid hf
      clear hf h1
      refine (Store_more HT1.out HFF.out (atI T L i 0) X 0).mono ?_
      rintro e w3 ⟨rfl, t3, o3⟩
      have HM := Lib.hid (show Amid (giveA T L i X) giveT fs pre ⟨true, some ⟨1, 0, 0⟩⟩ (pre ++ [(2, atI T L i 0, X, 0, 0)]) ⟨false, some ⟨1, 0, 0⟩⟩ from (Amid.start HLE.out _).more (giveA_1 T L i X _) HFF.out)
      have HT3 := Lib.hid t3
      have HO3 := Lib.hid (HO1.out.trans o3)
      clear t3 o3
      obtain ⟨c_0, c_1, c_2, c_3⟩ := plan4 HB.out HO3.out HN.out
      go_wp2_with fail
      refine (Push_runs HT3.out HM.out.len HF.out T N L G i).mono ?_
      rintro e w4 ⟨s4, out4, rfl, f4, t4, o4⟩
      have K := Lib.hid (HLESS.out _ _ _ t4 (HO3.out.trans o4))
      have HI := Lib.hid (Amid.inner (ι := fun q : PoM.St => (⟨false, some q⟩ : GiM.St)) (t := ⟨1, 0, 0⟩) HM.out (holds_push T L i X) f4)
      clear t4 o4 f4 c_0 c_1 c_2 c_3
      go_wp2
      refine bodyPost_end (results_none rfl _ _ _) rfl ?_
      cases hs : pushA T L i s4 with
      | some d => exact ⟨⟨false, some s4⟩, _, rfl, HI.out.1 (by rw [hs]; rfl), by rw [giveA_s]; exact K.out.1, K.out.2⟩
      | none => exact ⟨⟨false, some s4⟩, _, rfl, (HI.out.2 hs).done (by rw [giveA_s, hs]), by rw [giveA_s]; exact K.out.1, K.out.2⟩
theorem Give_run {P : Nat → Prop} {x : Nat} {w : World} {fs : List Int} (hT : Tp P w x fs [] false) (hf : ∀ f ∈ fs, 0 ≤ f ∧ f < 18446744073709551616) (T N L G r : Int) (h0 : 0 ≤ r) (h1 : r < 18446744073709551616) :
    Calls Tryz.prog 31 #[.pointer (some ⟨x, 0, none⟩), .agg #[.int .i64 T, .int .i64 N, .int .i64 L, .int .u64 G], .int .u64 r] w fun e w' => ∃ s out, e = .returned (.tuple #[]) ∧ Fin (giveA T L (r % 4294967296 / 2) (wordI (r / 4294967296))) giveT fs (init (r / 4294967296)) out s ∧ Tp P w' x fs out (giveA T L (r % 4294967296 / 2) (wordI (r / 4294967296)) s).isSome ∧ Only (fun k => ¬ P k) w w' := by
  refine (Give_runs hT (Nat.zero_le _) hf T N L G r h0 h1).mono ?_
  rintro e w' ⟨s, out, he, hF, ht, ho⟩
  exact ⟨s, out, he, hF.start, ht, ho⟩
end Go.Proofs.YtafjokjmogadnaaGreatDoor.GiveRef

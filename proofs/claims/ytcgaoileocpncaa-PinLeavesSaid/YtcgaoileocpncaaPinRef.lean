/- The document's answers for layer 13 (package sundialref13), on a tape: just what the tasks ask for. -/
import Derived.Test.YtcgaoileocpncaaTape
import Derived.Test.YtcgaoileocpncaaPinMath
import Derived.Test.YtcgaoileocpncaaPlanRef
namespace Go.Proofs.Ytcgaoileocpncaa.PinRef
set_option maxRecDepth 20000
open Go.ChangeShapes Go.WideShapes Go.RowKit CM DM PM PiM Runs Lay Plan Go.Proofs.Ytcgaoileocpncaa.Task Go.Proofs.Ytcgaoileocpncaa.Tape
set_option linter.unusedVariables false
set_option linter.unusedSimpArgs false

theorem plan4 {w w' : World} {N : Nat} {R : Nat → Prop} {T S L G : Int} (h : w.cell? ⟨N, 0, none⟩ = some (.int .i64 T) ∧ w.cell? ⟨N, 1, none⟩ = some (.int .i64 S) ∧ w.cell? ⟨N, 2, none⟩ = some (.int .i64 L) ∧ w.cell? ⟨N, 3, none⟩ = some (.int .u64 G)) (ho : Only R w w') (hr : ¬ R N) :
    w'.cell? ⟨N, 0, none⟩ = some (.int .i64 T) ∧ w'.cell? ⟨N, 1, none⟩ = some (.int .i64 S) ∧ w'.cell? ⟨N, 2, none⟩ = some (.int .i64 L) ∧ w'.cell? ⟨N, 3, none⟩ = some (.int .u64 G) :=
  ⟨ho.cell h.1 hr, ho.cell h.2.1 hr, ho.cell h.2.2.1 hr, ho.cell h.2.2.2 hr⟩

/-- What the document's pinning ends in; what its leaving does. -/
def PinRan (P : Nat → Prop) (w : World) (x : Nat) (fs : List Int) (s0 : St) (e : Ending) (w' : World) : Prop :=
  ∃ s out, e = .returned (.int .u64 (pinE s)) ∧ Fin pinA pinT fs s0 out s ∧ Tp P w' x fs out (pinA s).isSome ∧ Only (fun k => ¬ P k) w w'
def LeaveRan (P : Nat → Prop) (w : World) (x : Nat) (fs : List Int) (s0 : St) (e : Ending) (w' : World) : Prop :=
  ∃ s out, e = .returned (.tuple #[]) ∧ Fin pinA pinT fs s0 out s ∧ Tp P w' x fs out (pinA s).isSome ∧ Only (fun k => ¬ P k) w w'

theorem Pin_run {P : Nat → Prop} {x : Nat} {w : World} {fs : List Int} (hT : Tp P w x fs [] false) (hf : ∀ f ∈ fs, 0 ≤ f ∧ f < 18446744073709551616) (T S L G i : Int) :
    Calls Try.prog 9 #[.pointer (some ⟨x, 0, none⟩), .agg #[.int .i64 T, .int .i64 S, .int .i64 L, .int .u64 G], .int .i64 i] w (PinRan P w x fs ⟨1, ofI T 0 i, 0⟩) := by
  have HF := Lib.hid hf
  obtain ⟨P', hP'⟩ : ∃ P' : Nat → Prop, P' = fun k => P k ∨ k = w.heap.size := ⟨_, rfl⟩
  have HT := Lib.hid (show Tp P' (w.alloc (.cells #[.int .i64 T, .int .i64 S, .int .i64 L, .int .u64 G] 24)) x fs [] false from hP' ▸ hT.more _)
  have HLESS := Lib.hid (show ∀ (wr : World) out st, Tp P' wr x fs out st → Only (fun k => ¬ P' k) (w.alloc (.cells #[.int .i64 T, .int .i64 S, .int .i64 L, .int .u64 G] 24)) wr → Tp P wr x fs out st ∧ Only (fun k => ¬ P k) w wr from fun wr out st h1 h2 => by subst hP'; exact ⟨h1.less fun k q => .inl q, (only_alloc w _ (.cells #[.int .i64 T, .int .i64 S, .int .i64 L, .int .u64 G] 24)).trans (h2.wide fun k q => .inl fun z => q (.inl z))⟩)
  have HN := Lib.hid (show ¬ (fun k => ¬ P' k) w.heap.size from fun q => q (by rw [hP']; exact .inr rfl))
  have HB := Lib.hid (box4 w (.int .i64 T) (.int .i64 S) (.int .i64 L) (.int .u64 G) 24)
  obtain ⟨c_0, c_1, c_2, c_3⟩ := HB.out
  clear hf hT hP'
  cases fs with
  | nil =>
    go_enter Try.func9, Try.ntmps9
    go_wp2_with fail
    refine (Load_last HT.out rfl 0 0).mono ?_
    rintro e w1 ⟨rfl, t1, o1⟩
    have HT1 := Lib.hid t1
    have HO1 := Lib.hid o1
    clear t1 o1 c_0 c_1 c_2 c_3
    obtain ⟨c_0, c_1, c_2, c_3⟩ := plan4 HB.out HO1.out HN.out
    go_wp2_with fail
    refine (PlanRef.Pin_any T S L G i _).mono ?_
    rintro e w2 ⟨rfl, b2⟩
    have HT2 := Lib.hid (HT1.out.later b2)
    have HO2 := Lib.hid (HO1.out.then_below b2)
    clear b2 c_0 c_1 c_2 c_3
    go_wp2_with fail
    refine (Store_stop HT2.out (ofI T 0 i) 0 0).mono ?_
    rintro e w3 ⟨rfl, rfl⟩
    have K := Lib.hid (HLESS.out _ _ _ HT2.out HO2.out)
    have c2 := HT2.out.stop
    go_wp2
    go_ret
    exact ⟨⟨1, ofI T 0 i, 0⟩, _, rfl, (Mid.start _ _).last (pinA_1 _ _) (Nat.le_refl _), K.out.1, K.out.2⟩
  | cons f l =>
    go_enter Try.func9, Try.ntmps9
    go_wp2_with fail
    refine (Load_more HT.out (f := f) rfl 0 0).mono ?_
    rintro e w1 ⟨rfl, t1, o1⟩
    have HT1 := Lib.hid t1
    have HO1 := Lib.hid o1
    have HM1 := Lib.hid (show Mid pinA pinT (f :: l) ⟨1, ofI T 0 i, 0⟩ ([] ++ [(1, 0, 0, 0, 0)]) ⟨2, ofI T 0 i, f⟩ from pinT_1 (ofI T 0 i) 0 f ▸ (Mid.start (f :: l) _).more (pinA_1 _ _) rfl)
    clear t1 o1 c_0 c_1 c_2 c_3
    obtain ⟨c_0, c_1, c_2, c_3⟩ := plan4 HB.out HO1.out HN.out
    go_wp2_with fail
    refine (PlanRef.Pin_any T S L G i _).mono ?_
    rintro e w2 ⟨rfl, b2⟩
    have HT2 := Lib.hid (HT1.out.later b2)
    have HO2 := Lib.hid (HO1.out.then_below b2)
    clear b2 c_0 c_1 c_2 c_3
    cases l with
    | nil =>
      go_wp2_with fail
      refine (Store_last HT2.out rfl (ofI T 0 i) f 0).mono ?_
      rintro e w3 ⟨rfl, t3, o3⟩
      have K := Lib.hid (HLESS.out _ _ _ t3 (HO2.out.trans o3))
      have c2 := t3.stop
      clear t3 o3
      go_wp2
      go_ret
      exact ⟨⟨2, ofI T 0 i, f⟩, _, rfl, HM1.out.last (pinA_2 _ _) (Nat.le_refl _), K.out.1, K.out.2⟩
    | cons g l =>
      go_wp2_with fail
      refine (Store_more HT2.out (f := g) rfl (ofI T 0 i) f 0).mono ?_
      rintro e w3 ⟨rfl, t3, o3⟩
      have K := Lib.hid (HLESS.out _ _ _ t3 (HO2.out.trans o3))
      have c2 := t3.stop
      have HM2 := Lib.hid (show Mid pinA pinT (f :: g :: l) ⟨1, ofI T 0 i, 0⟩ ([] ++ [(1, 0, 0, 0, 0)] ++ [(2, ofI T 0 i, f, 0, 0)]) ⟨0, ofI T 0 i, f⟩ from pinT_2 (ofI T 0 i) f g ▸ HM1.out.more (pinA_2 _ _) rfl)
      clear t3 o3
      go_wp2
      go_ret
      exact ⟨⟨0, ofI T 0 i, f⟩, _, rfl, HM2.out.done (pinA_0 _ _), K.out.1, K.out.2⟩
theorem Unpin_run {P : Nat → Prop} {x : Nat} {w : World} {fs : List Int} (hT : Tp P w x fs [] false) (hf : ∀ f ∈ fs, 0 ≤ f ∧ f < 18446744073709551616) (T S L G i : Int) :
    Calls Try.prog 15 #[.pointer (some ⟨x, 0, none⟩), .agg #[.int .i64 T, .int .i64 S, .int .i64 L, .int .u64 G], .int .i64 i] w (LeaveRan P w x fs ⟨2, ofI T 0 i, 0⟩) := by
  have HF := Lib.hid hf
  obtain ⟨P', hP'⟩ : ∃ P' : Nat → Prop, P' = fun k => P k ∨ k = w.heap.size := ⟨_, rfl⟩
  have HT := Lib.hid (show Tp P' (w.alloc (.cells #[.int .i64 T, .int .i64 S, .int .i64 L, .int .u64 G] 24)) x fs [] false from hP' ▸ hT.more _)
  have HLESS := Lib.hid (show ∀ (wr : World) out st, Tp P' wr x fs out st → Only (fun k => ¬ P' k) (w.alloc (.cells #[.int .i64 T, .int .i64 S, .int .i64 L, .int .u64 G] 24)) wr → Tp P wr x fs out st ∧ Only (fun k => ¬ P k) w wr from fun wr out st h1 h2 => by subst hP'; exact ⟨h1.less fun k q => .inl q, (only_alloc w _ (.cells #[.int .i64 T, .int .i64 S, .int .i64 L, .int .u64 G] 24)).trans (h2.wide fun k q => .inl fun z => q (.inl z))⟩)
  have HN := Lib.hid (show ¬ (fun k => ¬ P' k) w.heap.size from fun q => q (by rw [hP']; exact .inr rfl))
  have HB := Lib.hid (box4 w (.int .i64 T) (.int .i64 S) (.int .i64 L) (.int .u64 G) 24)
  obtain ⟨c_0, c_1, c_2, c_3⟩ := HB.out
  clear hf hT hP'
  cases fs with
  | nil =>
    go_enter Try.func15, Try.ntmps15
    go_wp2_with fail
    refine (PlanRef.Pin_any T S L G i _).mono ?_
    rintro e w2 ⟨rfl, b2⟩
    have HT2 := Lib.hid (HT.out.later b2)
    have HO2 := Lib.hid (show Only (fun k => ¬ P' k) (w.alloc (.cells #[.int .i64 T, .int .i64 S, .int .i64 L, .int .u64 G] 24)) w2 from only_below _ b2)
    clear b2 c_0 c_1 c_2 c_3
    go_wp2_with fail
    refine (Store_last HT2.out rfl (ofI T 0 i) 0 0).mono ?_
    rintro e w3 ⟨rfl, t3, o3⟩
    have K := Lib.hid (HLESS.out _ _ _ t3 (HO2.out.trans o3))
    clear t3 o3
    go_wp2
    refine bodyPost_end (results_none rfl _ _ _) rfl ?_
    exact ⟨⟨2, ofI T 0 i, 0⟩, _, rfl, (Mid.start _ _).last (pinA_2 _ _) (Nat.le_refl _), K.out.1, K.out.2⟩
  | cons f l =>
    go_enter Try.func15, Try.ntmps15
    go_wp2_with fail
    refine (PlanRef.Pin_any T S L G i _).mono ?_
    rintro e w2 ⟨rfl, b2⟩
    have HT2 := Lib.hid (HT.out.later b2)
    have HO2 := Lib.hid (show Only (fun k => ¬ P' k) (w.alloc (.cells #[.int .i64 T, .int .i64 S, .int .i64 L, .int .u64 G] 24)) w2 from only_below _ b2)
    have HM1 := Lib.hid (show Mid pinA pinT (f :: l) ⟨2, ofI T 0 i, 0⟩ ([] ++ [(2, ofI T 0 i, 0, 0, 0)]) ⟨0, ofI T 0 i, 0⟩ from pinT_2 (ofI T 0 i) 0 f ▸ (Mid.start (f :: l) _).more (pinA_2 _ _) rfl)
    clear b2 c_0 c_1 c_2 c_3
    go_wp2_with fail
    refine (Store_more HT2.out (f := f) rfl (ofI T 0 i) 0 0).mono ?_
    rintro e w3 ⟨rfl, t3, o3⟩
    have K := Lib.hid (HLESS.out _ _ _ t3 (HO2.out.trans o3))
    clear t3 o3
    go_wp2
    refine bodyPost_end (results_none rfl _ _ _) rfl ?_
    exact ⟨⟨0, ofI T 0 i, 0⟩, _, rfl, HM1.out.done (pinA_0 _ _), K.out.1, K.out.2⟩
end Go.Proofs.Ytcgaoileocpncaa.PinRef

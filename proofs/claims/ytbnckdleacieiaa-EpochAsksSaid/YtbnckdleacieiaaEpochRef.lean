/- The document's answer for layer 14 (package sundialref14), on a tape: just what the task asks for. -/
import Derived.Test.YtbnckdleacieiaaTape
import Derived.Test.YtbnckdleacieiaaEpochMath
import Derived.Test.YtbnckdleacieiaaPlanRef
namespace Go.Proofs.Ytbnckdleacieiaa.EpochRef
set_option maxRecDepth 20000
open Go.ChangeShapes Go.WideShapes Go.RowKit CM DM PM EM Runs Lay Plan Go.Proofs.Ytbnckdleacieiaa.Task Go.Proofs.Ytbnckdleacieiaa.Tape
set_option linter.unusedVariables false
set_option linter.unusedSimpArgs false

theorem plan4 {w w' : World} {N : Nat} {R : Nat → Prop} {T S L G : Int} (h : w.cell? ⟨N, 0, none⟩ = some (.int .i64 T) ∧ w.cell? ⟨N, 1, none⟩ = some (.int .i64 S) ∧ w.cell? ⟨N, 2, none⟩ = some (.int .i64 L) ∧ w.cell? ⟨N, 3, none⟩ = some (.int .u64 G)) (ho : Only R w w') (hr : ¬ R N) :
    w'.cell? ⟨N, 0, none⟩ = some (.int .i64 T) ∧ w'.cell? ⟨N, 1, none⟩ = some (.int .i64 S) ∧ w'.cell? ⟨N, 2, none⟩ = some (.int .i64 L) ∧ w'.cell? ⟨N, 3, none⟩ = some (.int .u64 G) :=
  ⟨ho.cell h.1 hr, ho.cell h.2.1 hr, ho.cell h.2.2.1 hr, ho.cell h.2.2.2 hr⟩

/-- What the document's going on ends in. -/
def AdvRan (P : Nat → Prop) (w : World) (x : Nat) (fs : List Int) (T : Int) (e : Ending) (w' : World) : Prop :=
  ∃ s out, e = .returned (.bool (wonB s)) ∧ Fin (advA T) (advT T) fs ⟨2, 0, 0⟩ out s ∧ Tp P w' x fs out (advA T s).isSome ∧ Only (fun k => ¬ P k) w w'
/-- Amid the threads. -/
def Head (P : Nat → Prop) (w : World) (x : Nat) (fs : List Int) (T f : Int) (j : Nat) (wr : World) : Prop :=
  (∃ out, out.length = j + 1 ∧ Mid (advA T) (advT T) fs ⟨2, 0, 0⟩ out (goI T f (j : Int)) ∧ Tp P wr x fs out false ∧ Only (fun k => ¬ P k) w wr) ∨
  (∃ s out, Fin (advA T) (advT T) fs ⟨2, 0, 0⟩ out s ∧ wonB s = false ∧ (advA T s).isSome = true ∧ Tp P wr x fs out true ∧ Only (fun k => ¬ P k) w wr)

set_option maxHeartbeats 1000000 in
theorem Advance_run {P : Nat → Prop} {x : Nat} {w : World} {fs : List Int} (hT : Tp P w x fs [] false) (hf : ∀ f ∈ fs, 0 ≤ f ∧ f < 18446744073709551616) (T S L G : Int) : Calls Try.prog 8 #[.pointer (some ⟨x, 0, none⟩), .agg #[.int .i64 T, .int .i64 S, .int .i64 L, .int .u64 G]] w (AdvRan P w x fs T) := by
  have HF := Lib.hid hf
  obtain ⟨P', hP'⟩ : ∃ P' : Nat → Prop, P' = fun k => P k ∨ k = w.heap.size := ⟨_, rfl⟩
  have HT := Lib.hid (show Tp P' (w.alloc (.cells #[.int .i64 T, .int .i64 S, .int .i64 L, .int .u64 G] 24)) x fs [] false from hP' ▸ hT.more _)
  have HLESS := Lib.hid (show ∀ (wr : World) out st, Tp P' wr x fs out st → Only (fun k => ¬ P' k) (w.alloc (.cells #[.int .i64 T, .int .i64 S, .int .i64 L, .int .u64 G] 24)) wr → Tp P wr x fs out st ∧ Only (fun k => ¬ P k) w wr from fun wr out st h1 h2 => by
    subst hP'
    exact ⟨h1.less fun k q => .inl q, (only_alloc w _ (.cells #[.int .i64 T, .int .i64 S, .int .i64 L, .int .u64 G] 24)).trans (h2.wide fun k q => .inl fun z => q (.inl z))⟩)
  have HN := Lib.hid (show ¬ (fun k => ¬ P' k) w.heap.size from fun q => q (by rw [hP']; exact .inr rfl))
  have HB := Lib.hid (box4 w (.int .i64 T) (.int .i64 S) (.int .i64 L) (.int .u64 G) 24)
  have HFL := Lib.hid hT.few
  obtain ⟨c_0, c_1, c_2, c_3⟩ := HB.out
  clear hf hT hP'
  cases fs with
  | nil =>
    go_enter Try.func8, Try.ntmps8
    go_wp2_with fail
    refine (Load_last HT.out rfl 0 0).mono ?_
    rintro e w1 ⟨rfl, t1, o1⟩
    have HT1 := Lib.hid t1
    have K := Lib.hid (HLESS.out _ _ _ t1 o1)
    have c4 := t1.stop
    clear c_0 c_1 c_2 c_3
    obtain ⟨c_0, c_1, c_2, c_3⟩ := plan4 HB.out o1 HN.out
    clear t1 o1
    by_cases h0 : 0 < T
    · go_wp2
      refine wp_loop_rounds 1 ?_
      rw [rounds_succ]
      go_wp2_with fail
      refine (Swap_stop HT1.out 0 0 1 0).mono ?_
      rintro e w3 ⟨rfl, rfl⟩
      go_wp2
      go_ret
      exact ⟨⟨2, 0, 0⟩, _, rfl, (Mid.start _ _).last (advA_2 _ _ _) (Nat.le_refl _), K.out.1, K.out.2⟩
    · go_wp2
      refine wp_loop_rounds 1 ?_
      rw [rounds_succ]
      go_wp2_with fail
      refine (Swap_stop HT1.out 0 0 1 0).mono ?_
      rintro e w3 ⟨rfl, rfl⟩
      go_wp2
      go_ret
      exact ⟨⟨2, 0, 0⟩, _, rfl, (Mid.start _ _).last (advA_2 _ _ _) (Nat.le_refl _), K.out.1, K.out.2⟩
  | cons f l =>
    go_enter Try.func8, Try.ntmps8
    go_wp2_with fail
    refine (Load_more HT.out (f := f) rfl 0 0).mono ?_
    rintro e w1 ⟨rfl, t1, o1⟩
    have hfb := HF.out f List.mem_cons_self
    have HFB := Lib.hid hfb
    have H1 := Lib.hid (show Head P' (w.alloc (.cells #[.int .i64 T, .int .i64 S, .int .i64 L, .int .u64 G] 24)) x (f :: l) T f 0 w1 from .inl ⟨_, rfl, advT_2 T 0 0 f ▸ (Mid.start (f :: l) _).more (advA_2 T 0 0) rfl, t1, o1⟩)
    have he1 : IntKind.u64.wrap (f + 1) = (f + 1) % 18446744073709551616 := by rw [IntKind.wrap_u64]
    clear t1 o1 c_0 c_1 c_2 c_3 hfb
    obtain ⟨n, hn⟩ : ∃ n, n = (f :: l).length := ⟨_, rfl⟩
    have HNN := Lib.hid hn
    have hn1 : n ≤ 100000 := by rw [hn]; exact HFL.out
    clear hn
    go_wp2
    go_loopw [6] (fun iv wr => ∃ j : Nat, j ≤ n ∧ iv = .int .i64 j ∧ Head P' (w.alloc (.cells #[.int .i64 T, .int .i64 S, .int .i64 L, .int .u64 G] 24)) x (f :: l) T f j wr) (fun iv _ => n + 1 - (intOf iv).toNat)
    case atStart => exact ⟨0, Nat.zero_le _, rfl, H1.out⟩
    case round =>
      obtain ⟨j, hj, rfl, hrel⟩ := hrel
      rcases hrel with ⟨out, hlen, hm, ht, hon⟩ | ⟨s, out, hfin, hs, hmo, ht, hon⟩
      · have c4 := ht.stop
        obtain ⟨c_0, c_1, c_2, c_3⟩ := plan4 HB.out hon HN.out
        have HM := Lib.hid hm
        have HON := Lib.hid hon
        have HT1 := Lib.hid ht
        have HLEN := Lib.hid hlen
        have hjn : j + 1 ≤ n := by have := hm.len; rw [HNN.out, ← hlen]; exact this
        clear hm hon ht hlen
        by_cases hlt : (j : Int) < T
        · rw [go_ask hlt] at HM
          go_wp2_with fail
          refine (PlanRef.Pin_any T S L G (j : Int) _).mono ?_
          rintro e w2 ⟨rfl, b2⟩
          have HT2 := Lib.hid (HT1.out.later b2)
          have HO2 := Lib.hid (HON.out.then_below b2)
          clear b2 c_0 c_1 c_2 c_3 c4
          by_cases h1 : out.length = (f :: l).length
          · have HH := Lib.hid h1
            clear h1
            go_wp2_with fail
            refine (Load_last HT2.out HH.out (ofI T 0 (j : Int)) 0).mono ?_
            rintro e w3 ⟨rfl, t3, o3⟩
            have HT3 := Lib.hid t3
            have HO3 := Lib.hid (HO2.out.trans o3)
            clear t3 o3
            go_wp2
            go_roundw
            case rel => exact ⟨j + 1, hjn, by go_num, .inr ⟨⟨3, f, (j : Int)⟩, _, HM.out.last (advA_3 _ _ _) (by rw [HH.out]; exact Nat.le_refl _), won_n (by simp), by rw [advA_3]; rfl, HT3.out, HO3.out⟩⟩
            case measure => simp [intOf]; omega
          · obtain ⟨g, hg⟩ : ∃ g, (f :: l)[out.length]? = some g := ⟨_, List.getElem?_eq_getElem (by have := HM.out.len; omega)⟩
            have HG := Lib.hid hg
            have HJ1 := Lib.hid (show Go.RowKit.wrap64 ((j : Int) + 1) = ((j + 1 : Nat) : Int) by rw [wrap_in (by omega)]; simp)
            clear hg h1
            go_wp2_with fail
            refine (Load_more HT2.out HG.out (ofI T 0 (j : Int)) 0).mono ?_
            rintro e w3 ⟨rfl, t3, o3⟩
            have HT3 := Lib.hid t3
            have HO3 := Lib.hid (HO2.out.trans o3)
            have HLT := Lib.hid (show j + 2 ≤ n by have := (List.getElem?_eq_some_iff.1 HG.out).1; have := HLEN.out; have := HNN.out; omega)
            clear t3 o3
            by_cases hz : g = 0
            · have H4 := Lib.hid (show Head P' (w.alloc (.cells #[.int .i64 T, .int .i64 S, .int .i64 L, .int .u64 G] 24)) x (f :: l) T f (j + 1) w3 from .inl ⟨_, by rw [List.length_append, HLEN.out]; rfl, by have := HM.out.more (advA_3 _ _ _) HG.out; rw [advT_3 (.inl hz), HJ1.out] at this; exact this, HT3.out, HO3.out⟩)
              subst hz
              go_wp2
              go_roundw
              case rel => exact ⟨j + 1, hjn, by go_num, H4.out⟩
              case measure => simp [intOf]; omega
            · have hz2 : (g != 0) = true := by simpa using hz
              by_cases he : g = f
              · have H4 := Lib.hid (show Head P' (w.alloc (.cells #[.int .i64 T, .int .i64 S, .int .i64 L, .int .u64 G] 24)) x (f :: l) T f (j + 1) w3 from .inl ⟨_, by rw [List.length_append, HLEN.out]; rfl, by have := HM.out.more (advA_3 _ _ _) HG.out; rw [advT_3 (.inr he), HJ1.out] at this; exact this, HT3.out, HO3.out⟩)
                have he2 : (g != f) = false := by simpa using he
                clear HM HG
                go_wp2
                go_roundw
                case rel => exact ⟨j + 1, hjn, by go_num, H4.out⟩
                case measure => simp [intOf]; omega
              · have he2 : (g != f) = true := by simpa using he
                have HM4 := Lib.hid (show Mid (advA T) (advT T) (f :: l) ⟨2, 0, 0⟩ (out ++ [(1, ofI T 0 (j : Int), 0, 0, 0)]) ⟨0, f, (j : Int)⟩ from by have := HM.out.more (advA_3 _ _ _) HG.out; rw [advT_3n (fun q => q.elim hz he)] at this; exact this)
                have K := Lib.hid (HLESS.out _ _ _ HT3.out HO3.out)
                go_wp2
                go_ret
                exact ⟨⟨0, f, (j : Int)⟩, _, by rw [won_0]; rfl, HM4.out.done (advA_0 _ _ _), by rw [advA_0]; exact K.out.1, K.out.2⟩
        · rw [go_turn hlt] at HM
          by_cases h1 : out.length = (f :: l).length
          · have HH := Lib.hid h1
            clear h1
            go_wp2_with fail
            refine (Swap_last HT1.out HH.out 0 f ((f + 1) % 18446744073709551616) 0).mono ?_
            rintro e w3 ⟨rfl, t3, o3⟩
            have K := Lib.hid (HLESS.out _ _ _ t3 (HON.out.trans o3))
            clear t3 o3 c4 c_0 c_1 c_2 c_3
            go_wp2
            go_ret
            exact ⟨⟨4, f, (j : Int)⟩, _, by rw [won_n (by simp)]; rfl, HM.out.last (advA_4 _ _ _) (by rw [HH.out]; exact Nat.le_refl _), by rw [advA_4]; exact K.out.1, K.out.2⟩
          · obtain ⟨g, hg⟩ : ∃ g, (f :: l)[out.length]? = some g := ⟨_, List.getElem?_eq_getElem (by have := HM.out.len; omega)⟩
            have HG := Lib.hid hg
            have HM4 := Lib.hid (HM.out.more (advA_4 _ _ _) hg)
            clear hg h1
            by_cases he : g = f
            · subst he
              rw [advT_4] at HM4
              go_wp2_with fail
              refine (Swap_yes HT1.out HG.out 0 ((g + 1) % 18446744073709551616) 0).mono ?_
              rintro e w3 ⟨rfl, t3, o3⟩
              have K := Lib.hid (HLESS.out _ _ _ t3 (HON.out.trans o3))
              clear t3 o3 c4 c_0 c_1 c_2 c_3
              go_wp2
              go_ret
              exact ⟨⟨1, g, (j : Int)⟩, _, by rw [won_1]; rfl, HM4.out.done (advA_1 _ _ _), by rw [advA_1]; exact K.out.1, K.out.2⟩
            · rw [advT_4n he] at HM4
              have HNE := Lib.hid he
              clear he
              go_wp2_with fail
              refine (Swap_no HT1.out HG.out HNE.out 0 ((f + 1) % 18446744073709551616) 0).mono ?_
              rintro e w3 ⟨rfl, t3, o3⟩
              have K := Lib.hid (HLESS.out _ _ _ t3 (HON.out.trans o3))
              clear t3 o3 c4 c_0 c_1 c_2 c_3
              go_wp2
              go_ret
              exact ⟨⟨0, f, (j : Int)⟩, _, by rw [won_0]; rfl, HM4.out.done (advA_0 _ _ _), by rw [advA_0]; exact K.out.1, K.out.2⟩
      · have c4 := ht.stop
        obtain ⟨c_0, c_1, c_2, c_3⟩ := plan4 HB.out hon HN.out
        have HTS := Lib.hid ht
        have K := Lib.hid (HLESS.out _ _ _ ht hon)
        have HS := Lib.hid (And.intro hfin (And.intro hs hmo))
        clear ht hon hfin hs hmo
        by_cases hlt : (j : Int) < T
        · go_wp2_with fail
          refine (Swap_stop HTS.out 0 f ((f + 1) % 18446744073709551616) 0).mono ?_
          rintro e w3 ⟨rfl, rfl⟩
          go_wp2
          go_ret
          exact ⟨s, out, by rw [HS.out.2.1]; rfl, HS.out.1, by rw [HS.out.2.2]; exact K.out.1, K.out.2⟩
        · go_wp2_with fail
          refine (Swap_stop HTS.out 0 f ((f + 1) % 18446744073709551616) 0).mono ?_
          rintro e w3 ⟨rfl, rfl⟩
          go_wp2
          go_ret
          exact ⟨s, out, by rw [HS.out.2.1]; rfl, HS.out.1, by rw [HS.out.2.2]; exact K.out.1, K.out.2⟩
end Go.Proofs.Ytbnckdleacieiaa.EpochRef

import Derived.Test.YtafjokjmogadnaaGreatDoorCollectAsksAllP37
import Derived.Test.YtafjokjmogadnaaGreatDoorCollectAsksAllP13
import Derived.Test.YtafjokjmogadnaaGreatDoorCollectAsksAllP25
import Derived.Deep.RegionHeld3
/- The document's answer for layer 17 (package sundialref17), on a tape: just what a collector asks for, how many slots were ripe, which are left. -/
namespace Go.Proofs.YtafjokjmogadnaaGreatDoor.CollectRef
set_option maxRecDepth 20000
open Go.ChangeShapes Go.WideShapes Go.RowKit CM DM PM GiM CoM LM Runs Lay Plan Limbo Go.Proofs.YtafjokjmogadnaaGreatDoor.Task Go.Proofs.YtafjokjmogadnaaGreatDoor.Tape
open Go.Proofs.YtafjokjmogadnaaGreatDoor.PoolRuns (plan4)
open Go.Proofs.YtafjokjmogadnaaGreatDoor.GiveRef (Give_runs)
set_option linter.unusedVariables false
set_option linter.unusedSimpArgs false

/-- All that has been made since is held to it too. -/
theorem tp_grown {P : Nat → Prop} {w w' : World} {x : Nat} {fs : List Int} {out : List D} {st : Bool} (h : Tp P w x fs out st) (hb : Below w.heap.size w w') : Tp (fun k => P k ∨ (w.heap.size ≤ k ∧ k < w'.heap.size)) w' x fs out st := by
  have hx := h.lt
  obtain ⟨⟨A, c, O, oc, hb0, hr, ho, ha, hA⟩, hl, hk, hf, hn⟩ := h
  refine ⟨⟨A, c, O, oc, (hb.block x hx).trans hb0, hr.later hb, own_later ho hb, fun a e => ⟨(ha a e).1, fun q => q.elim (ha a e).2 fun q => ?_⟩, hA⟩, fun q => q.elim hl fun q => by omega, fun k q => ?_, hf, hn⟩
  · subst e
    have := (ho.lt a.block rfl).2
    omega
  · rcases q with q | q
    · have := hk k q; have := hb.size; omega
    · exact q.2
/-- What it ends in. -/
def ColRan (P : Nat → Prop) (w : World) (x : Nat) (fs : List Int) (T L : Int) (LL : Ls) (e : Ending) (w' : World) : Prop :=
  ∃ s out A n c, e = .returned (.tuple #[.int .i64 (cntS LL s : Int), .slice A n c]) ∧ Fin (colA T L) (colT T L LL) fs .look out s ∧ Tp P w' x fs out (colA T L s).isSome ∧ Only (fun k => ¬ P k) w w' ∧ n = (allL (leftS LL s)).length ∧ Row w' w'.heap.size A (flat encR (allL (leftS LL s)))
/-- Amid the loop: j of the slots that are ripe have been gone through. -/
def Amidst (P : Nat → Prop) (w : World) (x : Nat) (fs : List Int) (T L c : Int) (LL : Ls) (R : List R2) (j : Nat) (wr : World) : Prop :=
  (∃ out, Amid (colA T L) (colT T L LL) fs [] .look out (.at c (nxt ((R.drop j).map Prod.fst))) ∧ Tp P wr x fs out false ∧ Only (fun k => ¬ P k) w wr) ∨
  (∃ out z, Fins (colA T L) (colT T L LL) fs [] .look out (.at c z) ∧ (colA T L (.at c z)).isSome = true ∧ Tp P wr x fs out true ∧ Only (fun k => ¬ P k) w wr)
theorem Collect_run {P : Nat → Prop} {x : Nat} {w : World} {fs : List Int} (hT : Tp P w x fs [] false) (hf : ∀ f ∈ fs, 0 ≤ f ∧ f < 18446744073709551616) (T N L G : Int) {A : Option Addr} {n c : Nat} {LL : Ls} (hR : Row w w.heap.size A (flat encR (allL LL))) (hn : n = (allL LL).length) (hnm : n ≤ 1000) (hA : ∀ a, A = some a → P a.block)
    (hX : ∀ y ∈ allL LL, 0 ≤ y.1 ∧ y.1 < 18446744073709551616) : Calls Tryz.prog 10 #[.pointer (some ⟨x, 0, none⟩), .agg #[.int .i64 T, .int .i64 N, .int .i64 L, .int .u64 G], .slice A n c] w (ColRan P w x fs T L LL) := by
  have HF := Lib.hid hf
  have HRW := Lib.hid (And.intro hR (And.intro hn (And.intro hA hX)))
  have HT := Lib.hid hT
  have HB := Lib.hid (box4 w (.int .i64 T) (.int .i64 N) (.int .i64 L) (.int .u64 G) 24)
  have HT0 := Lib.hid (hT.more (.cells #[.int .i64 T, .int .i64 N, .int .i64 L, .int .u64 G] 24))
  obtain ⟨c_0, c_1, c_2, c_3⟩ := HB.out
  clear hT hf hR hn hA hX
  by_cases h1 : ([] : List D).length = fs.length
  · have HH := Lib.hid h1
    clear h1
    go_enter Tryz.func10, Tryz.ntmps10
    go_wp2_with fail
    refine (Load_last HT0.out HH.out 0 0).mono ?_
    rintro e w1 ⟨rfl, t1, o1⟩
    have c4 := t1.stop
    have HT1 := Lib.hid (And.intro t1 o1)
    clear t1 o1 c_0 c_1 c_2 c_3
    go_wp2
    refine bodyPost_ret (v := .tuple #[.int .i64 0, .slice A n c]) (by simp [results, Tryz.results10, go_sem]) rfl ?_
    have ho : Only (fun k => ¬ P k) w w1 := (only_alloc w _ (.cells #[.int .i64 T, .int .i64 N, .int .i64 L, .int .u64 G] 24)).trans (HT1.out.2.wide fun k q => .inl fun z => q (.inl z))
    exact ⟨.look, _, A, n, c, rfl, ((Amid.start (Nat.zero_le _) (CoM.St.look)).last rfl (by rw [← HH.out]; exact Nat.le_refl _)).start, HT1.out.1.less (fun k q => .inl q), ho, HRW.out.2.1, ho.row HRW.out.1 (fun _ a e z => z (HRW.out.2.2.1 a e))⟩
  · obtain ⟨f, hf⟩ : ∃ f, fs[([] : List D).length]? = some f := ⟨_, List.getElem?_eq_getElem (by simp at h1 ⊢; omega)⟩
    have HFF := Lib.hid hf
    have HFB := Lib.hid (HF.out f (List.mem_of_getElem? hf))
    clear hf h1
    go_enter Tryz.func10, Tryz.ntmps10
    go_wp2_with fail
    refine (Load_more HT0.out HFF.out 0 0).mono ?_
    rintro e w1 ⟨rfl, t1, o1⟩
    have c4 := t1.stop
    have HT1 := Lib.hid (And.intro t1 o1)
    have HO1 := Lib.hid (show Only (fun k => ¬ P k) w w1 from (only_alloc w _ (.cells #[.int .i64 T, .int .i64 N, .int .i64 L, .int .u64 G] 24)).trans (o1.wide fun k q => .inl fun z => q (.inl z)))
    have HR1 := Lib.hid (HO1.out.row HRW.out.1 (fun _ a e z => z (HRW.out.2.2.1 a e)))
    clear t1 o1 c_0 c_1 c_2 c_3
    go_wp2_with fail
    refine (LimboRef.Take_any HR1.out HRW.out.2.1 (by omega) HFB.out.1 HFB.out.2).mono ?_
    rintro e w2 ⟨A1, n1, c1, A2, n2, c2, rfl, ⟨B1, m1, d1, q1, r1, r2, r3, r4, hb2⟩, ⟨B2, m2, d2, q2, s1, s2, s3, s4, -⟩⟩
    cases q1
    cases q2
    obtain ⟨P2, hP2⟩ : ∃ P2 : Nat → Prop, P2 = fun k => (P k ∨ k = w.heap.size) ∨ (w1.heap.size ≤ k ∧ k < w2.heap.size) := ⟨_, rfl⟩
    have HT2 := Lib.hid (show Tp P2 w2 x fs [(1, 0, 0, 0, 0)] false from hP2 ▸ tp_grown HT1.out.1 hb2)
    have HP2 := Lib.hid (show (∀ k, P k → P2 k) ∧ P2 w.heap.size ∧ (∀ a, A1 = some a → P2 a.block) ∧ (∀ a, A2 = some a → P2 a.block) from ⟨fun k q => by rw [hP2]; exact .inl (.inl q), by rw [hP2]; exact .inl (.inr rfl), fun a e => by rw [hP2]; exact .inr (r4 a e), fun a e => by rw [hP2]; exact .inr (s4 a e)⟩)
    have HO2 := Lib.hid (HT1.out.2.then_below hb2)
    have HLESS := Lib.hid (show ∀ (wr : World) out st, Tp P2 wr x fs out st → Only (fun k => ¬ P2 k) w2 wr → Tp P wr x fs out st ∧ Only (fun k => ¬ P k) w wr from fun wr out st h1 h2 =>
      ⟨h1.less HP2.out.1, (HO1.out.then_below hb2).trans (h2.wide fun k q => .inl fun z => q (HP2.out.1 k z))⟩)
    have HC2 := Lib.hid (plan4 HB.out HO2.out (fun q => q (.inr rfl)))
    obtain ⟨R, hRR⟩ : ∃ R, R = (allL LL).filter (ripeB f) := ⟨_, rfl⟩
    rw [← hRR] at r1 r3
    have HRX := Lib.hid (show ∀ y ∈ R, 0 ≤ y.1 ∧ y.1 < 18446744073709551616 from fun y hy => HRW.out.2.2.2 y (by rw [hRR] at hy; exact (List.mem_filter.1 hy).1))
    have HR2 := Lib.hid (And.intro r1 r3)
    have HS2 := Lib.hid (And.intro s1 s3)
    have H0 := Lib.hid (show Amidst P2 w2 x fs T L f LL R 0 w2 from .inl ⟨_, by
      have h := (Amid.start (ask := colA T L) (tell := colT T L LL) (fs := fs) (pre := []) (Nat.zero_le _) CoM.St.look).more rfl HFF.out
      rw [show R.drop 0 = R from rfl, hRR]
      exact h, HT2.out, Only.refl _ _⟩)
    have HRR := Lib.hid hRR
    have hn6 : n1 ≤ 1000 := by
      rw [r1, hRR]
      exact Nat.le_trans (List.length_filter_le _ _) (by rw [← HRW.out.2.1]; exact hnm)
    clear r1 r2 r3 r4 s1 s2 s3 s4 hb2 hP2 hRR c4
    go_wp2
    go_loopw [11] (fun iv wr => ∃ j : Nat, j ≤ n1 ∧ iv = .int .i64 j ∧ Amidst P2 w2 x fs T L f LL R j wr) (fun iv _ => n1 - (intOf iv).toNat)
    case atStart => exact ⟨0, Nat.zero_le _, rfl, H0.out⟩
    case round =>
      obtain ⟨j, hj, rfl, hrel⟩ := hrel
      by_cases hlt : j < n1
      · have hil : (j : Int) < (n1 : Int) := by omega
        rcases hrel with ⟨out, hm, ht, hon⟩ | ⟨out, z, hfin, hz, ht, hon⟩
        · obtain ⟨y, hy⟩ : ∃ y, R[j]? = some y := ⟨_, List.getElem?_eq_getElem (by rw [← HR2.out.1]; exact hlt)⟩
          have hdrop : R.drop j = y :: R.drop (j + 1) := by
            obtain ⟨h1, h2⟩ := List.getElem?_eq_some_iff.1 hy
            rw [← h2]
            exact List.drop_eq_getElem_cons h1
          have HY := Lib.hid (HRX.out y (List.mem_of_getElem? hy))
          rw [hdrop] at hm
          have HM := Lib.hid (show Amid (colA T L) (colT T L LL) fs [] .look out (.at f (some (y.1, GiM.init (genR y.1), (R.drop (j + 1)).map Prod.fst))) from hm)
          have HTR := Lib.hid (And.intro ht hon)
          have c4 := ht.stop
          obtain ⟨b, o, rfl, hbw, hc⟩ := Open.two_at (hon.row HR2.out.2 (fun _ a e z => z (HP2.out.2.2.1 a e))) (i := j) (by rw [← HR2.out.1]; exact hlt)
          obtain ⟨d0, -⟩ := hc _ y hy
          have HD := Lib.hid (And.intro (plan4 HC2.out hon (fun z => z HP2.out.2.1)) d0)
          clear hm ht hon hc hy hdrop hbw d0
          go_wp2
          go_region_held3 (fun W => (W.cell? ⟨w.heap.size, 0, none⟩ = some (.int .i64 T) ∧ W.cell? ⟨w.heap.size, 1, none⟩ = some (.int .i64 N) ∧ W.cell? ⟨w.heap.size, 2, none⟩ = some (.int .i64 L) ∧ W.cell? ⟨w.heap.size, 3, none⟩ = some (.int .u64 G)) ∧ W.cell? ⟨b, o + j * 2, none⟩ = some (.int .u64 y.1))
            ((first | (with_reducible exact HD.out) | (with_reducible exact HD3.out) | assumption))
            (first | (go_at_call 31; refine (Give_runs (HTR.out.1.later (Below.refl _ _).drew) HM.out.len HF.out T N L G y.1 HY.out.1 HY.out.2).mono ?_; rintro e w3 ⟨s3, out3, rfl, f3, t3, o3⟩; have HO3 := Lib.hid ((only_below (fun k => ¬ P2 k) ((Below.refl wr.heap.size wr).drew)).trans o3); have HT3 := Lib.hid (And.intro f3 t3); have HD3 := Lib.hid (show (w3.cell? ⟨w.heap.size, 0, none⟩ = some (.int .i64 T) ∧ w3.cell? ⟨w.heap.size, 1, none⟩ = some (.int .i64 N) ∧ w3.cell? ⟨w.heap.size, 2, none⟩ = some (.int .i64 L) ∧ w3.cell? ⟨w.heap.size, 3, none⟩ = some (.int .u64 G)) ∧ w3.cell? ⟨b, o + j * 2, none⟩ = some (.int .u64 y.1) from ⟨plan4 HD.out.1 HO3.out (fun z => z HP2.out.2.1), HO3.out.cell HD.out.2 (fun z => z (HP2.out.2.2.1 ⟨b, o, none⟩ rfl))⟩); clear f3 t3 o3))
          go_wp2
          have HI := Lib.hid (Amid.pass (ι := fun s => CoM.St.at f (some (y.1, s, (R.drop (j + 1)).map Prod.fst))) (t := GiM.init (genR y.1)) HM.out (passes T L LL f y.1 ((R.drop (j + 1)).map Prod.fst)) (givA_init T L y.1) HT3.out.1)
          have H4 := Lib.hid (show Amidst P2 w2 x fs T L f LL R (j + 1) w3 from by
            cases hs : givA T L y.1 s3 with
            | some d =>
              have ht := HT3.out.2
              rw [show giveA T L (y.1 % 4294967296 / 2) (wordI (y.1 / 4294967296)) s3 = some d from hs] at ht
              exact .inr ⟨out3, some (y.1, s3, (R.drop (j + 1)).map Prod.fst), HI.out.1 (by rw [hs]; rfl), by show (givA T L y.1 s3).isSome = true; rw [hs]; rfl, ht, HTR.out.2.trans HO3.out⟩
            | none =>
              have ht := HT3.out.2
              rw [show giveA T L (y.1 % 4294967296 / 2) (wordI (y.1 / 4294967296)) s3 = none from hs] at ht
              exact .inl ⟨out3, HI.out.2 hs, ht, HTR.out.2.trans HO3.out⟩)
          go_roundw
          case rel => exact ⟨j + 1, by omega, by go_num, H4.out⟩
          case measure => simp [intOf]; omega
        · have c4 := ht.stop
          have H4 := Lib.hid (show Amidst P2 w2 x fs T L f LL R (j + 1) wr from .inr ⟨out, z, hfin, hz, ht, hon⟩)
          clear hfin hz ht hon
          go_wp2
          go_roundw
          case rel => exact ⟨j + 1, by omega, by go_num, H4.out⟩
          case measure => simp [intOf]; omega
      · obtain rfl : j = n1 := by omega
        have HE := Lib.hid (show ColRan P w x fs T L LL (.returned (.tuple #[.int .i64 (j : Int), .slice A2 n2 c2])) wr from by
          have hrow : ∀ wr, Only (fun k => ¬ P2 k) w2 wr → Row wr wr.heap.size A2 (flat encR (allL (amidL LL f 3))) := fun wr hon => by
            rw [amidL_all]
            exact hon.row HS2.out.2 (fun _ a e z => z (HP2.out.2.2.2 a e))
          have hlen : n2 = (allL (amidL LL f 3)).length := by rw [amidL_all]; exact HS2.out.1
          have hcnt : j = ((allL LL).filter (ripeB f)).length := by rw [← HRR.out]; exact HR2.out.1
          rcases hrel with ⟨out, hm, ht, hon⟩ | ⟨out, z, hfin, hz, ht, hon⟩
          · rw [List.drop_eq_nil_of_le (by rw [← HR2.out.1]; exact Nat.le_refl _)] at hm
            obtain ⟨k1, k2⟩ := HLESS.out _ _ _ ht hon
            exact ⟨.at f none, out, A2, n2, c2, by rw [show cntS LL (.at f none) = j from hcnt.symm], (hm.done rfl).start, k1, k2, hlen, hrow _ hon⟩
          · obtain ⟨k1, k2⟩ := HLESS.out _ _ _ ht hon
            exact ⟨.at f z, out, A2, n2, c2, by rw [show cntS LL (.at f z) = j from hcnt.symm], hfin.start, by rw [hz]; exact k1, k2, hlen, hrow _ hon⟩)
        clear hrel
        go_wp2
        exact bodyPost_ret (v := .tuple #[.int .i64 (j : Int), .slice A2 n2 c2]) (by simp [results, Tryz.results10, go_sem]) rfl HE.out
end Go.Proofs.YtafjokjmogadnaaGreatDoor.CollectRef

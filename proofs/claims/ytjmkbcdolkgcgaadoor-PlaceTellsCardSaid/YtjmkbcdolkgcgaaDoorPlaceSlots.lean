/- Package place's ofSlots: it hands yield all slots' words, and ahead of them the head's ways on. -/
import Derived.Test.YtjmkbcdolkgcgaaDoorPlaceWays
namespace Go.Proofs.YtjmkbcdolkgcgaaDoor.Place
open Go.ChangeShapes Go.WideShapes Go.RowKit Go.Shelf PM Lay Push Plan
set_option linter.unusedVariables false
attribute [local go_sem] Oper.semAt_some

set_option maxRecDepth 100000 in
set_option maxHeartbeats 4000000 in
theorem ofSlots_in (n l N : Nat) (R : Nat → Prop) (J Jx : List PSp → World → Prop) (hY : YieldsTo Tryd.prog R encs J Jx l N) (hJ : Abides J) (T S L G : Int) (pre : List PSp) (W : World) (hR : ∀ k, W.heap.size ≤ k → ¬ R k) (lv s : Nat) (hL : L = (lv : Int)) (hS : S = (s : Int)) (hl : lv ≤ 1000) (hs : s ≤ 1000) (h0 : J pre W) (hN : pre.length + (slsG T L lv (s + 1)).length ≤ N) :
    CallsIn Fence.wide n Tryd.prog 31 #[.agg #[.int .i64 T, .int .i64 S, .int .i64 L, .int .u64 G], .func (.yield l) #[] #[]] W (Pushed R J Jx pre (slsG T L lv (s + 1)) W) := by
  refine callsIn_of_wp Tryd.func31 rfl trivial ?_ rfl
  simp only [Tryd.ntmps31, List.size_toArray, List.length_cons, List.length_nil, Nat.reduceAdd, Nat.reduceSub, Array.replicate_succ, Array.replicate_zero, List.push_toArray, List.append_toArray, List.nil_append, List.cons_append]
  have HS := Lib.hid hS
  have HP := planAt_new T S L G W
  have HR := hR W.heap.size (Nat.le_refl _)
  have h00 := hJ _ _ _ h0 (box_below W (.cells #[.int .i64 T, .int .i64 S, .int .i64 L, .int .u64 G] 24))
  have hk0 : Kept R W (W.alloc (.cells #[.int .i64 T, .int .i64 S, .int .i64 L, .int .u64 G] 24)) := Kept.below (box_below W _)
  have d0 := HP.c1
  have HN := Lib.hid hN
  have HE := Lib.hid (show wrap64 (S + 1) = ((s + 1 : Nat) : Int) by rw [wrap_in (by omega)]; omega)
  have HLV := Lib.hid hL
  clear hS hN hL
  gi_wp2
  clear d0
  gi_loopw [9] (fun v wr => ∃ k : Nat, k ≤ s + 1 ∧ v = .int .i64 k ∧ J (pre ++ slsG T L lv k) wr ∧ PlanAt W.heap.size T S L G wr ∧ Kept R W wr)
    (fun v _ => s + 1 - (intOf v).toNat)
  case atStart => exact ⟨0, Nat.zero_le _, rfl, by rw [sls_zero, List.append_nil]; exact h00, HP, hk0⟩
  case round =>
    obtain ⟨k, hk, rfl, hj, hp, hkw⟩ := hrel
    by_cases hlt : (k : Int) < wrap64 (S + 1)
    · have hkt : k < s + 1 := by have := HE.out; omega
      have HL : (pre ++ slsG T L lv k).length + (sloG T L (k : Int) lv).length ≤ N := by
        have e := (sls_prefix T L (List.prefix_refl (sloG T L (k : Int) lv)) hkt).length_le
        have := HN.out
        simp only [List.length_append] at e ⊢
        omega
      have HPP := Lib.hid hp
      have HK := Lib.hid hkw
      have HKT := Lib.hid hkt
      have HJ := Lib.hid hj
      have HLL := Lib.hid HL
      have HRW : ∀ i, wr.heap.size ≤ i → ¬ R i := fun i hi => hR i (Nat.le_trans hkw.size hi)
      clear hp hkw h00 hk0 HP hj HL
      obtain ⟨d0, d1, d2, d3⟩ := HPP.out
      by_cases hz : (0 : Int) < (k : Int)
      · have HZ := Lib.hid (show ¬ (k : Int) = 0 by omega)
        have HOL : (sloG T L (k : Int) lv).length = 6 + (wayG T L (k : Int) lv).length := by rw [slo_some _ _ HZ.out, List.length_append]; rfl
        have HO := Lib.hid (ofSlot_in (n - 1) l N R J Jx hY hJ T S L G (k : Int) (pre ++ slsG T L lv k) wr HRW HJ.out (by have := HLL.out; omega))
        have HWL := Lib.hid (way_length T L (k : Int) lv)
        have HOL' := Lib.hid HOL
        clear HOL
        gi_wp2
        refine ⟨trivial, wide_room, HO.out.mono ?_⟩
        clear HO
        rintro e W1 (⟨rfl, hJ1, hk1⟩ | ⟨rfl, q, hq, hx⟩)
        · have HP1 := Lib.hid (HPP.out.kept hk1 HR)
          have HJ1 := Lib.hid hJ1
          have HK1 := Lib.hid (HK.out.trans hk1)
          clear d0 d1 d2 d3
          obtain ⟨d0, d1, d2, d3⟩ := HP1.out
          have HO := Lib.hid (ways_in (n - 1) l N R J Jx hY hJ T S L G (k : Int) ((pre ++ slsG T L lv k) ++ ownG T L (k : Int)) W1 (fun i hi => HRW i (Nat.le_trans hk1.size hi)) lv HLV.out hl HJ1.out (by
            have h1 := HLL.out
            have h2 := HOL'.out
            have h3 := HWL.out
            rw [List.length_append]
            simp only [ownG, List.length_cons, List.length_nil] at *
            omega))
          clear hJ1 hk1
          gi_wp2
          refine ⟨trivial, wide_room, HO.out.mono ?_⟩
          clear HO
          rintro e W2 (⟨rfl, hJ2, hk2⟩ | ⟨rfl, q, hq, hx⟩)
          · have HP2 := Lib.hid (HP1.out.kept hk2 HR)
            have HJ2 := Lib.hid hJ2
            have HK2 := Lib.hid (HK1.out.trans hk2)
            clear hJ2 hk2
            gi_wp2
            go_roundw
            case rel => exact ⟨k + 1, HKT.out, by go_num, by rw [sls_succ, slo_some _ _ HZ.out]; simpa using HJ2.out, HP2.out, HK2.out⟩
            case measure => have := HKT.out; simp [intOf]; omega
          · gi_wp2
            repeat ((first | (with_reducible refine ⟨fun _ h => (by cases h), ?_⟩) | refine ⟨trivial, ?_⟩); gi_wp2)
            go_ret
            exact pushed_part (q := slsG T L lv k ++ (ownG T L (k : Int) ++ q)) (sls_prefix T L (by rw [slo_some _ _ HZ.out]; exact (List.prefix_append_right_inj _).2 hq) HKT.out) (by simpa using hx)
        · gi_wp2
          repeat ((first | (with_reducible refine ⟨fun _ h => (by cases h), ?_⟩) | refine ⟨trivial, ?_⟩); gi_wp2)
          go_ret
          exact pushed_part (q := slsG T L lv k ++ q) (sls_prefix T L (by rw [slo_some _ _ HZ.out]; exact hq.trans (List.prefix_append _ _)) HKT.out) (by simpa using hx)
      · have HZ := Lib.hid (show (k : Int) = 0 by omega)
        have HOL := Lib.hid (show sloG T L (k : Int) lv = wayG T L (k : Int) lv by rw [HZ.out]; exact slo_zero T L lv)
        have HWL := Lib.hid (way_length T L (k : Int) lv)
        have HO := Lib.hid (ways_in (n - 1) l N R J Jx hY hJ T S L G (k : Int) (pre ++ slsG T L lv k) wr HRW lv HLV.out hl HJ.out (by
            have h1 := HLL.out
            rw [HOL.out, HWL.out] at h1
            exact h1))
        gi_wp2
        refine ⟨trivial, ?_⟩
        gi_wp2
        refine ⟨trivial, wide_room, HO.out.mono ?_⟩
        clear HO
        rintro e W2 (⟨rfl, hJ2, hk2⟩ | ⟨rfl, q, hq, hx⟩)
        · have HP2 := Lib.hid (HPP.out.kept hk2 HR)
          have HJ2 := Lib.hid hJ2
          have HK2 := Lib.hid (HK.out.trans hk2)
          clear hJ2 hk2
          gi_wp2
          go_roundw
          case rel => exact ⟨k + 1, HKT.out, by go_num, by rw [sls_succ, HOL.out]; simpa using HJ2.out, HP2.out, HK2.out⟩
          case measure => have := HKT.out; simp [intOf]; omega
        · gi_wp2
          repeat ((first | (with_reducible refine ⟨fun _ h => (by cases h), ?_⟩) | refine ⟨trivial, ?_⟩); gi_wp2)
          go_ret
          exact pushed_part (q := slsG T L lv k ++ q) (sls_prefix T L (by rw [HOL.out]; exact hq) HKT.out) (by simpa using hx)
    · obtain rfl : k = s + 1 := by have := HE.out; omega
      gi_wp2
      go_ret
      exact pushed_all hj hkw
end Go.Proofs.YtjmkbcdolkgcgaaDoor.Place

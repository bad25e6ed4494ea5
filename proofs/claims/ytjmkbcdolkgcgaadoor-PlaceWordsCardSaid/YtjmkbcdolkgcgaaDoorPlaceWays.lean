/- Package place's ways and ofSlots: they hand yield the ways on of a slot, and all slots' words. -/
import Derived.Test.YtjmkbcdolkgcgaaDoorPlaceSlot
namespace Go.Proofs.YtjmkbcdolkgcgaaDoor.Place
open Go.ChangeShapes Go.WideShapes Go.RowKit Go.Shelf PM Lay Push Plan
set_option linter.unusedVariables false
attribute [local go_sem] Oper.semAt_some

set_option maxRecDepth 100000 in
set_option maxHeartbeats 2000000 in
theorem ways_zero (n l N : Nat) (R : Nat → Prop) (J Jx : List PSp → World → Prop) (hY : YieldsTo Tryd.prog R encs J Jx l N) (hJ : Abides J) (T S L G i : Int) (hi : True) (pre : List PSp) (W : World) (hR : ∀ k, W.heap.size ≤ k → ¬ R k) (t : Nat) (hT : L = (t : Int)) (ht : t ≤ 1000) (h0 : J pre W) (hN : pre.length + t ≤ N) :
    CallsIn Fence.wide n Tryd.prog 38 #[.agg #[.int .i64 T, .int .i64 S, .int .i64 L, .int .u64 G], .int .i64 (0), .func (.yield l) #[] #[]] W (Pushed R J Jx pre (wayG T L (0) t) W) := by
  have HWK := Lib.hid (show wayK (0) = 8 by first | rfl | exact if_neg hi)
  try have hi0 : (0 == 0) = false := by simpa using hi
  refine callsIn_of_wp Tryd.func38 rfl trivial ?_ rfl
  simp only [Tryd.ntmps38, List.size_toArray, List.length_cons, List.length_nil, Nat.reduceAdd, Nat.reduceSub, Array.replicate_succ, Array.replicate_zero, List.push_toArray, List.append_toArray, List.nil_append, List.cons_append]
  have HT := Lib.hid hT
  have HP := planAt_new T S L G W
  have HR := hR W.heap.size (Nat.le_refl _)
  have h00 := hJ _ _ _ h0 (box_below W (.cells #[.int .i64 T, .int .i64 S, .int .i64 L, .int .u64 G] 24))
  have hk0 : Kept R W (W.alloc (.cells #[.int .i64 T, .int .i64 S, .int .i64 L, .int .u64 G] 24)) := Kept.below (box_below W _)
  have d0 := HP.c2
  clear hT
  gi_wp2
  clear d0
  gi_loopw [13] (fun v wr => ∃ k : Nat, k ≤ t ∧ v = .int .i64 k ∧ J (pre ++ wayG T L (0) k) wr ∧ PlanAt W.heap.size T S L G wr ∧ Kept R W wr)
    (fun v _ => t - (intOf v).toNat)
  case atStart => exact ⟨0, Nat.zero_le _, rfl, by rw [way_zero, List.append_nil]; exact h00, HP, hk0⟩
  case round =>
    obtain ⟨k, hk, rfl, hj, hp, hkw⟩ := hrel
    by_cases hlt : (k : Int) < L
    · have hkt : k < t := by have := HT.out; omega
      have HL : (pre ++ wayG T L (0) k).length + 1 ≤ N := by
        have e := way_length T L (0) k
        rw [List.length_append, e]
        omega
      have HPP := Lib.hid hp
      have HK := Lib.hid hkw
      have HKT := Lib.hid hkt
      clear hp hkw hkt h00 hk0 HP
      obtain ⟨d0, d1, d2, d3⟩ := HPP.out
      gi_wp2
      refine ⟨trivial, wide_room, (in_wide _ (Next_any T S L G (0) (k : Int) _)).mono ?_⟩
      rintro e u1 ⟨rfl, hb⟩
      obtain ⟨f1, t1, a1, b1, hy1, hR1⟩ := hY (n - 1) _ (nextI T L (0) k, (8, 0, (k : Int))) _ (hJ _ _ _ hj hb) (by first | omega | (simp only [List.length_append, List.length_cons, List.length_nil] at HL ⊢; omega))
      dsimp only [encs, spotV] at hy1
      have hkb : Kept R wr u1 := Kept.below hb
      have HPb := Lib.hid ((PlanAt.mk d0 d1 d2 d3 : PlanAt W.heap.size T S L G _).below hb)
      clear d0 d1 d2 d3 hb
      gi_wp2
      refine ⟨wide_room, hR1.mono ?_⟩
      clear hy1 hR1
      rintro e W1 (⟨rfl, hJ1, hk1⟩ | ⟨rfl, hx⟩)
      rotate_left
      · gi_wp2
        go_ret
        have he := way_succ T L (0) k
        rw [HWK.out] at he
        refine pushed_part (q := wayG T L (0) k ++ [_]) (by rw [← he]; exact way_prefix T L (0) HKT.out) (by simpa using hx)
      have HP1 := Lib.hid (HPb.out.kept hk1 HR)
      gi_wp2
      go_roundw
      case rel => exact ⟨k + 1, HKT.out, by go_num, by rw [way_succ, HWK.out]; simpa using hJ1, HP1.out, HK.out.trans (hkb.trans hk1)⟩
      case measure => have := HKT.out; simp [intOf]; omega
    · obtain rfl : k = t := by have := HT.out; omega
      gi_wp2
      go_ret
      exact pushed_all hj hkw
set_option maxRecDepth 100000 in
set_option maxHeartbeats 2000000 in
theorem ways_some (n l N : Nat) (R : Nat → Prop) (J Jx : List PSp → World → Prop) (hY : YieldsTo Tryd.prog R encs J Jx l N) (hJ : Abides J) (T S L G i : Int) (hi : ¬ i = 0) (pre : List PSp) (W : World) (hR : ∀ k, W.heap.size ≤ k → ¬ R k) (t : Nat) (hT : L = (t : Int)) (ht : t ≤ 1000) (h0 : J pre W) (hN : pre.length + t ≤ N) :
    CallsIn Fence.wide n Tryd.prog 38 #[.agg #[.int .i64 T, .int .i64 S, .int .i64 L, .int .u64 G], .int .i64 (i), .func (.yield l) #[] #[]] W (Pushed R J Jx pre (wayG T L (i) t) W) := by
  have HWK := Lib.hid (show wayK (i) = 15 by first | rfl | exact if_neg hi)
  try have hi0 : (i == 0) = false := by simpa using hi
  refine callsIn_of_wp Tryd.func38 rfl trivial ?_ rfl
  simp only [Tryd.ntmps38, List.size_toArray, List.length_cons, List.length_nil, Nat.reduceAdd, Nat.reduceSub, Array.replicate_succ, Array.replicate_zero, List.push_toArray, List.append_toArray, List.nil_append, List.cons_append]
  have HT := Lib.hid hT
  have HP := planAt_new T S L G W
  have HR := hR W.heap.size (Nat.le_refl _)
  have h00 := hJ _ _ _ h0 (box_below W (.cells #[.int .i64 T, .int .i64 S, .int .i64 L, .int .u64 G] 24))
  have hk0 : Kept R W (W.alloc (.cells #[.int .i64 T, .int .i64 S, .int .i64 L, .int .u64 G] 24)) := Kept.below (box_below W _)
  have d0 := HP.c2
  clear hT
  gi_wp2
  clear d0
  gi_loopw [13] (fun v wr => ∃ k : Nat, k ≤ t ∧ v = .int .i64 k ∧ J (pre ++ wayG T L (i) k) wr ∧ PlanAt W.heap.size T S L G wr ∧ Kept R W wr)
    (fun v _ => t - (intOf v).toNat)
  case atStart => exact ⟨0, Nat.zero_le _, rfl, by rw [way_zero, List.append_nil]; exact h00, HP, hk0⟩
  case round =>
    obtain ⟨k, hk, rfl, hj, hp, hkw⟩ := hrel
    by_cases hlt : (k : Int) < L
    · have hkt : k < t := by have := HT.out; omega
      have HL : (pre ++ wayG T L (i) k).length + 1 ≤ N := by
        have e := way_length T L (i) k
        rw [List.length_append, e]
        omega
      have HPP := Lib.hid hp
      have HK := Lib.hid hkw
      have HKT := Lib.hid hkt
      clear hp hkw hkt h00 hk0 HP
      obtain ⟨d0, d1, d2, d3⟩ := HPP.out
      gi_wp2
      refine ⟨trivial, wide_room, (in_wide _ (Next_any T S L G (i) (k : Int) _)).mono ?_⟩
      rintro e u1 ⟨rfl, hb⟩
      obtain ⟨f1, t1, a1, b1, hy1, hR1⟩ := hY (n - 1) _ (nextI T L (i) k, (15, i, (k : Int))) _ (hJ _ _ _ hj hb) (by first | omega | (simp only [List.length_append, List.length_cons, List.length_nil] at HL ⊢; omega))
      dsimp only [encs, spotV] at hy1
      have hkb : Kept R wr u1 := Kept.below hb
      have HPb := Lib.hid ((PlanAt.mk d0 d1 d2 d3 : PlanAt W.heap.size T S L G _).below hb)
      clear d0 d1 d2 d3 hb
      gi_wp2
      refine ⟨wide_room, hR1.mono ?_⟩
      clear hy1 hR1
      rintro e W1 (⟨rfl, hJ1, hk1⟩ | ⟨rfl, hx⟩)
      rotate_left
      · gi_wp2
        go_ret
        have he := way_succ T L (i) k
        rw [HWK.out] at he
        refine pushed_part (q := wayG T L (i) k ++ [_]) (by rw [← he]; exact way_prefix T L (i) HKT.out) (by simpa using hx)
      have HP1 := Lib.hid (HPb.out.kept hk1 HR)
      gi_wp2
      go_roundw
      case rel => exact ⟨k + 1, HKT.out, by go_num, by rw [way_succ, HWK.out]; simpa using hJ1, HP1.out, HK.out.trans (hkb.trans hk1)⟩
      case measure => have := HKT.out; simp [intOf]; omega
    · obtain rfl : k = t := by have := HT.out; omega
      gi_wp2
      go_ret
      exact pushed_all hj hkw
theorem ways_in (n l N : Nat) (R : Nat → Prop) (J Jx : List PSp → World → Prop) (hY : YieldsTo Tryd.prog R encs J Jx l N) (hJ : Abides J) (T S L G i : Int) (pre : List PSp) (W : World) (hR : ∀ k, W.heap.size ≤ k → ¬ R k) (t : Nat) (hT : L = (t : Int)) (ht : t ≤ 1000) (h0 : J pre W) (hN : pre.length + t ≤ N) :
    CallsIn Fence.wide n Tryd.prog 38 #[.agg #[.int .i64 T, .int .i64 S, .int .i64 L, .int .u64 G], .int .i64 i, .func (.yield l) #[] #[]] W (Pushed R J Jx pre (wayG T L i t) W) := by
  by_cases hi : i = 0
  · subst hi; exact ways_zero n l N R J Jx hY hJ T S L G 0 trivial pre W hR t hT ht h0 hN
  · exact ways_some n l N R J Jx hY hJ T S L G i hi pre W hR t hT ht h0 hN
end Go.Proofs.YtjmkbcdolkgcgaaDoor.Place

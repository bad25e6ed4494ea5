/- Package place's ofSlot: it hands yield a slot's words, but for its ways on. -/
import Derived.Test.YtjmkbcdolkgcgaaDoorPlaceThr
namespace Go.Proofs.YtjmkbcdolkgcgaaDoor.Place
open Go.ChangeShapes Go.WideShapes Go.RowKit Go.Shelf PM Lay Push Plan
set_option linter.unusedVariables false
attribute [local go_sem] Oper.semAt_some

set_option maxRecDepth 100000 in
set_option maxHeartbeats 8000000 in
theorem ofSlot_in (n l N : Nat) (R : Nat → Prop) (J Jx : List PSp → World → Prop) (hY : YieldsTo Tryd.prog R encs J Jx l N) (hJ : Abides J) (T S L G i : Int) (pre : List PSp) (W : World) (hR : ∀ k, W.heap.size ≤ k → ¬ R k) (h0 : J pre W) (hN : pre.length + 6 ≤ N) :
    CallsIn Fence.wide n Tryd.prog 37 #[.agg #[.int .i64 T, .int .i64 S, .int .i64 L, .int .u64 G], .int .i64 i, .func (.yield l) #[] #[]] W (Pushed R J Jx pre (ownG T L i) W) := by
  refine callsIn_of_wp Tryd.func37 rfl trivial ?_ rfl
  simp only [Tryd.ntmps37, List.size_toArray, List.length_cons, List.length_nil, Nat.reduceAdd, Nat.reduceSub, Array.replicate_succ, Array.replicate_zero, List.push_toArray, List.append_toArray, List.nil_append, List.cons_append]
  have HP_0 := Lib.hid (planAt_new T S L G W)
  have HR := hR W.heap.size (Nat.le_refl _)
  have hJ_0 := hJ _ _ _ h0 (box_below W (.cells #[.int .i64 T, .int .i64 S, .int .i64 L, .int .u64 G] 24))
  have hk_0 : Kept R W (W.alloc (.cells #[.int .i64 T, .int .i64 S, .int .i64 L, .int .u64 G] 24)) := Kept.below (box_below W _)
  obtain ⟨d0, d1, d2, d3⟩ := HP_0.out
  gi_wp2
  refine ⟨trivial, wide_room, (in_wide _ (State_any T S L G i _)).mono ?_⟩
  rintro e u_1 ⟨rfl, hb⟩
  obtain ⟨f1, t1, a1, b1, hy1, hR1⟩ := hY (n - 1) _ (atI T L i 0, (9, i, 0)) _ (hJ _ _ _ hJ_0 hb) (by first | omega | (simp only [List.length_append, List.length_cons, List.length_nil]; omega))
  dsimp only [encs, spotV] at hy1
  have hkb_1 : Kept R W u_1 := hk_0.trans (Kept.below hb)
  have HPb_1 := Lib.hid ((PlanAt.mk d0 d1 d2 d3 : PlanAt W.heap.size T S L G _).below hb)
  clear d0 d1 d2 d3 hb HP_0 hJ_0 hk_0
  gi_wp2
  refine ⟨wide_room, hR1.mono ?_⟩
  clear hy1 hR1
  rintro e W_1 (⟨rfl, hJ_1, hk_1⟩ | ⟨rfl, hx⟩)
  rotate_left
  · gi_wp2
    repeat ((first | (with_reducible refine ⟨fun _ h => (by cases h), ?_⟩) | refine ⟨trivial, ?_⟩); gi_wp2)
    go_ret
    exact pushed_part (q := (ownG T L i).take 1) (List.take_prefix _ _) (by simpa [ownG] using hx)
  have HP_1 := Lib.hid (HPb_1.out.kept hk_1 HR)
  replace hk_1 := hkb_1.trans hk_1
  clear HPb_1 hkb_1
  obtain ⟨d0, d1, d2, d3⟩ := HP_1.out
  gi_wp2
  refine ⟨trivial, wide_room, (in_wide _ (Dead_any T S L G i _)).mono ?_⟩
  rintro e u_2 ⟨rfl, hb⟩
  obtain ⟨f1, t1, a1, b1, hy1, hR1⟩ := hY (n - 1) _ (atI T L i 1, (10, i, 0)) _ (hJ _ _ _ hJ_1 hb) (by first | omega | (simp only [List.length_append, List.length_cons, List.length_nil]; omega))
  dsimp only [encs, spotV] at hy1
  have hkb_2 : Kept R W u_2 := hk_1.trans (Kept.below hb)
  have HPb_2 := Lib.hid ((PlanAt.mk d0 d1 d2 d3 : PlanAt W.heap.size T S L G _).below hb)
  clear d0 d1 d2 d3 hb HP_1 hJ_1 hk_1
  gi_wp2
  refine ⟨wide_room, hR1.mono ?_⟩
  clear hy1 hR1
  rintro e W_2 (⟨rfl, hJ_2, hk_2⟩ | ⟨rfl, hx⟩)
  rotate_left
  · gi_wp2
    repeat ((first | (with_reducible refine ⟨fun _ h => (by cases h), ?_⟩) | refine ⟨trivial, ?_⟩); gi_wp2)
    go_ret
    exact pushed_part (q := (ownG T L i).take 2) (List.take_prefix _ _) (by simpa [ownG] using hx)
  have HP_2 := Lib.hid (HPb_2.out.kept hk_2 HR)
  replace hk_2 := hkb_2.trans hk_2
  clear HPb_2 hkb_2
  obtain ⟨d0, d1, d2, d3⟩ := HP_2.out
  gi_wp2
  refine ⟨trivial, wide_room, (in_wide _ (Seq_any T S L G i _)).mono ?_⟩
  rintro e u_3 ⟨rfl, hb⟩
  obtain ⟨f1, t1, a1, b1, hy1, hR1⟩ := hY (n - 1) _ (atI T L i 2, (11, i, 0)) _ (hJ _ _ _ hJ_2 hb) (by first | omega | (simp only [List.length_append, List.length_cons, List.length_nil]; omega))
  dsimp only [encs, spotV] at hy1
  have hkb_3 : Kept R W u_3 := hk_2.trans (Kept.below hb)
  have HPb_3 := Lib.hid ((PlanAt.mk d0 d1 d2 d3 : PlanAt W.heap.size T S L G _).below hb)
  clear d0 d1 d2 d3 hb HP_2 hJ_2 hk_2
  gi_wp2
  refine ⟨wide_room, hR1.mono ?_⟩
  clear hy1 hR1
  rintro e W_3 (⟨rfl, hJ_3, hk_3⟩ | ⟨rfl, hx⟩)
  rotate_left
  · gi_wp2
    repeat ((first | (with_reducible refine ⟨fun _ h => (by cases h), ?_⟩) | refine ⟨trivial, ?_⟩); gi_wp2)
    go_ret
    exact pushed_part (q := (ownG T L i).take 3) (List.take_prefix _ _) (by simpa [ownG] using hx)
  have HP_3 := Lib.hid (HPb_3.out.kept hk_3 HR)
  replace hk_3 := hkb_3.trans hk_3
  clear HPb_3 hkb_3
  obtain ⟨d0, d1, d2, d3⟩ := HP_3.out
  gi_wp2
  refine ⟨trivial, wide_room, (in_wide _ (Tall_any T S L G i _)).mono ?_⟩
  rintro e u_4 ⟨rfl, hb⟩
  obtain ⟨f1, t1, a1, b1, hy1, hR1⟩ := hY (n - 1) _ (atI T L i 3, (12, i, 0)) _ (hJ _ _ _ hJ_3 hb) (by first | omega | (simp only [List.length_append, List.length_cons, List.length_nil]; omega))
  dsimp only [encs, spotV] at hy1
  have hkb_4 : Kept R W u_4 := hk_3.trans (Kept.below hb)
  have HPb_4 := Lib.hid ((PlanAt.mk d0 d1 d2 d3 : PlanAt W.heap.size T S L G _).below hb)
  clear d0 d1 d2 d3 hb HP_3 hJ_3 hk_3
  gi_wp2
  refine ⟨wide_room, hR1.mono ?_⟩
  clear hy1 hR1
  rintro e W_4 (⟨rfl, hJ_4, hk_4⟩ | ⟨rfl, hx⟩)
  rotate_left
  · gi_wp2
    repeat ((first | (with_reducible refine ⟨fun _ h => (by cases h), ?_⟩) | refine ⟨trivial, ?_⟩); gi_wp2)
    go_ret
    exact pushed_part (q := (ownG T L i).take 4) (List.take_prefix _ _) (by simpa [ownG] using hx)
  have HP_4 := Lib.hid (HPb_4.out.kept hk_4 HR)
  replace hk_4 := hkb_4.trans hk_4
  clear HPb_4 hkb_4
  obtain ⟨d0, d1, d2, d3⟩ := HP_4.out
  gi_wp2
  refine ⟨trivial, wide_room, (in_wide _ (Hold_any T S L G i _)).mono ?_⟩
  rintro e u_5 ⟨rfl, hb⟩
  obtain ⟨f1, t1, a1, b1, hy1, hR1⟩ := hY (n - 1) _ (atI T L i 4, (13, i, 0)) _ (hJ _ _ _ hJ_4 hb) (by first | omega | (simp only [List.length_append, List.length_cons, List.length_nil]; omega))
  dsimp only [encs, spotV] at hy1
  have hkb_5 : Kept R W u_5 := hk_4.trans (Kept.below hb)
  have HPb_5 := Lib.hid ((PlanAt.mk d0 d1 d2 d3 : PlanAt W.heap.size T S L G _).below hb)
  clear d0 d1 d2 d3 hb HP_4 hJ_4 hk_4
  gi_wp2
  refine ⟨wide_room, hR1.mono ?_⟩
  clear hy1 hR1
  rintro e W_5 (⟨rfl, hJ_5, hk_5⟩ | ⟨rfl, hx⟩)
  rotate_left
  · gi_wp2
    repeat ((first | (with_reducible refine ⟨fun _ h => (by cases h), ?_⟩) | refine ⟨trivial, ?_⟩); gi_wp2)
    go_ret
    exact pushed_part (q := (ownG T L i).take 5) (List.take_prefix _ _) (by simpa [ownG] using hx)
  have HP_5 := Lib.hid (HPb_5.out.kept hk_5 HR)
  replace hk_5 := hkb_5.trans hk_5
  clear HPb_5 hkb_5
  obtain ⟨d0, d1, d2, d3⟩ := HP_5.out
  gi_wp2
  refine ⟨trivial, wide_room, (in_wide _ (Succ_any T S L G i _)).mono ?_⟩
  rintro e u_6 ⟨rfl, hb⟩
  obtain ⟨f1, t1, a1, b1, hy1, hR1⟩ := hY (n - 1) _ (atI T L i 5, (14, i, 0)) _ (hJ _ _ _ hJ_5 hb) (by first | omega | (simp only [List.length_append, List.length_cons, List.length_nil]; omega))
  dsimp only [encs, spotV] at hy1
  have hkb_6 : Kept R W u_6 := hk_5.trans (Kept.below hb)
  have HPb_6 := Lib.hid ((PlanAt.mk d0 d1 d2 d3 : PlanAt W.heap.size T S L G _).below hb)
  clear d0 d1 d2 d3 hb HP_5 hJ_5 hk_5
  gi_wp2
  refine ⟨wide_room, hR1.mono ?_⟩
  clear hy1 hR1
  rintro e W_6 (⟨rfl, hJ_6, hk_6⟩ | ⟨rfl, hx⟩)
  rotate_left
  · gi_wp2
    repeat ((first | (with_reducible refine ⟨fun _ h => (by cases h), ?_⟩) | refine ⟨trivial, ?_⟩); gi_wp2)
    go_ret
    exact pushed_part (q := (ownG T L i).take 6) (List.take_prefix _ _) (by simpa [ownG] using hx)
  have HP_6 := Lib.hid (HPb_6.out.kept hk_6 HR)
  replace hk_6 := hkb_6.trans hk_6
  clear HPb_6 hkb_6
  gi_wp2
  go_ret
  exact pushed_all (by simpa [ownG] using hJ_6) hk_6
end Go.Proofs.YtjmkbcdolkgcgaaDoor.Place

/- Package place's ofThreads: it hands yield all threads' words. -/
import Derived.Test.YtjmkbcdolkgcgaaDoorPlaceOnce
namespace Go.Proofs.YtjmkbcdolkgcgaaDoor.Place
open Go.ChangeShapes Go.WideShapes Go.RowKit Go.Shelf PM Lay Push Plan
set_option linter.unusedVariables false
attribute [local go_sem] Oper.semAt_some

/-- The block of a plan. -/
structure PlanAt (b : Nat) (T S L G : Int) (W : World) : Prop where
  c0 : W.cell? ⟨b, 0, none⟩ = some (.int .i64 T)
  c1 : W.cell? ⟨b, 1, none⟩ = some (.int .i64 S)
  c2 : W.cell? ⟨b, 2, none⟩ = some (.int .i64 L)
  c3 : W.cell? ⟨b, 3, none⟩ = some (.int .u64 G)
theorem planAt_new (T S L G : Int) (w : World) : PlanAt w.heap.size T S L G (w.alloc (.cells #[.int .i64 T, .int .i64 S, .int .i64 L, .int .u64 G] 24)) := by
  obtain ⟨a, b, c, d⟩ := box4 w (.int .i64 T) (.int .i64 S) (.int .i64 L) (.int .u64 G) 24
  exact ⟨a, b, c, d⟩
theorem PlanAt.kept {b : Nat} {T S L G : Int} {R : Nat → Prop} {A B : World} (h : PlanAt b T S L G A) (hk : Kept R A B) (hb : ¬ R b) : PlanAt b T S L G B :=
  ⟨hk.cell hb h.c0, hk.cell hb h.c1, hk.cell hb h.c2, hk.cell hb h.c3⟩
theorem PlanAt.below {b : Nat} {T S L G : Int} {A B : World} (h : PlanAt b T S L G A) (hk : Below A.heap.size A B) : PlanAt b T S L G B :=
  ⟨cell_later hk h.c0, cell_later hk h.c1, cell_later hk h.c2, cell_later hk h.c3⟩

/-- What the iterator's caller holds goes on where the iterator lays blocks of its own. -/
def Abides (J : List PSp → World → Prop) : Prop := ∀ pre A B, J pre A → Below A.heap.size A B → J pre B

set_option maxRecDepth 100000 in
set_option maxHeartbeats 2000000 in
theorem ofThreads_in (n l N : Nat) (R : Nat → Prop) (J Jx : List PSp → World → Prop) (hY : YieldsTo Tryd.prog R encs J Jx l N) (hJ : Abides J) (T S L G : Int) (pre : List PSp) (W : World) (hR : ∀ k, W.heap.size ≤ k → ¬ R k) (t : Nat) (hT : T = (t : Int)) (ht : t ≤ 1000) (h0 : J pre W) (hN : pre.length + 3 * t ≤ N) :
    CallsIn Fence.wide n Tryd.prog 30 #[.agg #[.int .i64 T, .int .i64 S, .int .i64 L, .int .u64 G], .func (.yield l) #[] #[]] W (Pushed R J Jx pre (thrG T t) W) := by
  refine callsIn_of_wp Tryd.func30 rfl trivial ?_ rfl
  simp only [Tryd.ntmps30, List.size_toArray, List.length_cons, List.length_nil, Nat.reduceAdd, Nat.reduceSub, Array.replicate_succ, Array.replicate_zero, List.push_toArray, List.append_toArray, List.nil_append, List.cons_append]
  have HT := Lib.hid hT
  have HP := planAt_new T S L G W
  have HR := hR W.heap.size (Nat.le_refl _)
  have h00 := hJ _ _ _ h0 (box_below W (.cells #[.int .i64 T, .int .i64 S, .int .i64 L, .int .u64 G] 24))
  have hk0 : Kept R W (W.alloc (.cells #[.int .i64 T, .int .i64 S, .int .i64 L, .int .u64 G] 24)) := Kept.below (box_below W _)
  have d0 := HP.c0
  clear hT
  gi_wp2
  clear d0
  gi_loopw [9] (fun v wr => ∃ k : Nat, k ≤ t ∧ v = .int .i64 k ∧ J (pre ++ thrG T k) wr ∧ PlanAt W.heap.size T S L G wr ∧ Kept R W wr)
    (fun v _ => t - (intOf v).toNat)
  case atStart => exact ⟨0, Nat.zero_le _, rfl, by rw [thr_zero, List.append_nil]; exact h00, HP, hk0⟩
  case round =>
    obtain ⟨k, hk, rfl, hj, hp, hkw⟩ := hrel
    by_cases hlt : (k : Int) < T
    · have hkt : k < t := by have := HT.out; omega
      have HL : (pre ++ thrG T k).length + 3 ≤ N := by
        have e := thr_length T k
        rw [List.length_append, e]
        omega
      have HPP := Lib.hid hp
      have HK := Lib.hid hkw
      have HKT := Lib.hid hkt
      clear hp hkw hkt h00 hk0 HP
      obtain ⟨d0, d1, d2, d3⟩ := HPP.out
      gi_wp2
      refine ⟨trivial, wide_room, (in_wide _ (Pin_any T S L G (k : Int) _)).mono ?_⟩
      rintro e u_1 ⟨rfl, hb⟩
      obtain ⟨f1, t1, a1, b1, hy1, hR1⟩ := hY (n - 1) _ (ofI T 0 k, (5, (k : Int), 0)) _ (hJ _ _ _ hj hb) (by first | omega | (simp only [List.length_append, List.length_cons, List.length_nil] at HL ⊢; omega))
      dsimp only [encs, spotV] at hy1
      have hkb_1 : Kept R wr u_1 := (Kept.refl _ _).trans (Kept.below hb)
      have HPb_1 := Lib.hid ((PlanAt.mk d0 d1 d2 d3 : PlanAt W.heap.size T S L G _).below hb)
      clear d0 d1 d2 d3 hb
      gi_wp2
      refine ⟨wide_room, hR1.mono ?_⟩
      clear hy1 hR1
      rintro e W_1 (⟨rfl, hJ_1, hk_1⟩ | ⟨rfl, hx⟩)
      rotate_left
      · gi_wp2
        repeat ((first | (with_reducible refine ⟨fun _ h => (by cases h), ?_⟩) | refine ⟨trivial, ?_⟩); gi_wp2)
        go_ret
        refine pushed_part (q := thrG T k ++ (thG T k).take 1) (thr_prefix T (List.take_prefix _ _) HKT.out) (by simpa [thG] using hx)
      have HP_1 := Lib.hid (HPb_1.out.kept hk_1 HR)
      replace hk_1 := hkb_1.trans hk_1
      obtain ⟨d0, d1, d2, d3⟩ := HP_1.out
      gi_wp2
      refine ⟨trivial, wide_room, (in_wide _ (Sleep_any T S L G (k : Int) _)).mono ?_⟩
      rintro e u_2 ⟨rfl, hb⟩
      obtain ⟨f1, t1, a1, b1, hy1, hR1⟩ := hY (n - 1) _ (ofI T 1 k, (6, (k : Int), 0)) _ (hJ _ _ _ hJ_1 hb) (by first | omega | (simp only [List.length_append, List.length_cons, List.length_nil] at HL ⊢; omega))
      dsimp only [encs, spotV] at hy1
      have hkb_2 : Kept R wr u_2 := (hk_1).trans (Kept.below hb)
      have HPb_2 := Lib.hid ((PlanAt.mk d0 d1 d2 d3 : PlanAt W.heap.size T S L G _).below hb)
      clear d0 d1 d2 d3 hb
      gi_wp2
      refine ⟨wide_room, hR1.mono ?_⟩
      clear hy1 hR1
      rintro e W_2 (⟨rfl, hJ_2, hk_2⟩ | ⟨rfl, hx⟩)
      rotate_left
      · gi_wp2
        repeat ((first | (with_reducible refine ⟨fun _ h => (by cases h), ?_⟩) | refine ⟨trivial, ?_⟩); gi_wp2)
        go_ret
        refine pushed_part (q := thrG T k ++ (thG T k).take 2) (thr_prefix T (List.take_prefix _ _) HKT.out) (by simpa [thG] using hx)
      have HP_2 := Lib.hid (HPb_2.out.kept hk_2 HR)
      replace hk_2 := hkb_2.trans hk_2
      obtain ⟨d0, d1, d2, d3⟩ := HP_2.out
      gi_wp2
      refine ⟨trivial, wide_room, (in_wide _ (Sem_any T S L G (k : Int) _)).mono ?_⟩
      rintro e u_3 ⟨rfl, hb⟩
      obtain ⟨f1, t1, a1, b1, hy1, hR1⟩ := hY (n - 1) _ (ofI T 2 k, (7, (k : Int), 0)) _ (hJ _ _ _ hJ_2 hb) (by first | omega | (simp only [List.length_append, List.length_cons, List.length_nil] at HL ⊢; omega))
      dsimp only [encs, spotV] at hy1
      have hkb_3 : Kept R wr u_3 := (hk_2).trans (Kept.below hb)
      have HPb_3 := Lib.hid ((PlanAt.mk d0 d1 d2 d3 : PlanAt W.heap.size T S L G _).below hb)
      clear d0 d1 d2 d3 hb
      gi_wp2
      refine ⟨wide_room, hR1.mono ?_⟩
      clear hy1 hR1
      rintro e W_3 (⟨rfl, hJ_3, hk_3⟩ | ⟨rfl, hx⟩)
      rotate_left
      · gi_wp2
        repeat ((first | (with_reducible refine ⟨fun _ h => (by cases h), ?_⟩) | refine ⟨trivial, ?_⟩); gi_wp2)
        go_ret
        refine pushed_part (q := thrG T k ++ (thG T k).take 3) (thr_prefix T (List.take_prefix _ _) HKT.out) (by simpa [thG] using hx)
      have HP_3 := Lib.hid (HPb_3.out.kept hk_3 HR)
      replace hk_3 := hkb_3.trans hk_3
      gi_wp2
      go_roundw
      case rel => exact ⟨k + 1, HKT.out, by go_num, by rw [thr_succ]; simpa [thG] using hJ_3, HP_3.out, HK.out.trans hk_3⟩
      case measure => have := HKT.out; simp [intOf]; omega
    · obtain rfl : k = t := by have := HT.out; omega
      gi_wp2
      go_ret
      exact pushed_all hj hkw
end Go.Proofs.YtjmkbcdolkgcgaaDoor.Place

/- Package place's spots: the iterator over all words of a plan, each with its place and its spot. -/
import Derived.Test.YtjmkbcdolkgcgaaDoorPlaceSlots
namespace Go.Proofs.YtjmkbcdolkgcgaaDoor.Place
open Go.ChangeShapes Go.WideShapes Go.RowKit Go.Shelf PM Lay Push Plan
set_option linter.unusedVariables false
attribute [local go_sem] Oper.semAt_some

set_option maxRecDepth 100000 in
set_option maxHeartbeats 4000000 in
theorem spots_yes (n l N : Nat) (R : Nat → Prop) (J Jx : List PSp → World → Prop) (hY : YieldsTo Tryd.prog R encs J Jx l N) (hJ : Abides J) (T S L G : Int) (hr : rightB T S L G = true) (b : Nat) (W : World) (hb : ¬ R b) (hP : PlanAt b T S L G W) (hR : ∀ k, W.heap.size ≤ k → ¬ R k) (h0 : J [] W) (hN : (gI T S L G).length ≤ N) :
    CallsIn Fence.wide n Tryd.prog 28 #[.func (.yield l) #[] #[], .pointer (some ⟨b, 0, none⟩)] W fun e W' => (∃ v, e = .returned v) ∧ ((∃ xs, xs = gI T S L G ∧ J xs W') ∨ (∃ pre, pre <+: gI T S L G ∧ Jx pre W')) := by
  obtain ⟨t, s, lv, hT, hS, hL, hs⟩ := small_of hr
  have HG := Lib.hid (show gI T S L G = oneG ++ (thrG T t ++ slsG T L lv (s + 1)) by unfold gI; rw [if_pos hr, hT, hS, hL]; rfl)
  have HN := Lib.hid (show 4 + (3 * t + (slsG T L lv (s + 1)).length) ≤ N by have e := HG.out; rw [e] at hN; simp only [List.length_append, thr_length] at hN; exact hN)
  rw [HG.out]
  have HT := Lib.hid hT
  have HS := Lib.hid hS
  have HL := Lib.hid hL
  have HR := Lib.hid hr
  have HPP := Lib.hid hP
  have HRR := Lib.hid hR
  clear hT hS hL hr hN hP hR
  refine callsIn_of_wp Tryd.func28 rfl trivial ?_ rfl
  simp only [Tryd.ntmps28, List.size_toArray, List.length_cons, List.length_nil, Nat.reduceAdd, Nat.reduceSub, Array.replicate_succ, Array.replicate_zero, List.push_toArray, List.append_toArray, List.nil_append, List.cons_append]
  obtain ⟨d0, d1, d2, d3⟩ := HPP.out
  gi_wp2
  refine ⟨trivial, wide_room, (in_wide _ (Plan.Right_yes HR.out _)).mono ?_⟩
  rintro e W1 ⟨rfl, hb1⟩
  have HP1 := Lib.hid ((PlanAt.mk d0 d1 d2 d3 : PlanAt b T S L G _).below hb1)
  have HJ1 := Lib.hid (hJ _ _ _ h0 hb1)
  have HR1 := Lib.hid (fun i (hi : W1.heap.size ≤ i) => HRR.out i (Nat.le_trans hb1.size hi))
  have HO := Lib.hid (ofAll_in (n - 1) l N R J Jx hY [] W1 HJ1.out (by have := HN.out; simp only [List.length_nil]; omega))
  clear hb1 d0 d1 d2 d3
  gi_wp2
  refine ⟨trivial, wide_room, HO.out.mono ?_⟩
  clear HO
  rintro e W2 (⟨rfl, hJ2, hk2⟩ | ⟨rfl, q, hq, hx⟩)
  · have HP2 := Lib.hid (HP1.out.kept hk2 hb)
    have HJ2 := Lib.hid hJ2
    have HR2 := Lib.hid (fun i (hi : W2.heap.size ≤ i) => HR1.out i (Nat.le_trans hk2.size hi))
    have HO := Lib.hid (ofThreads_in (n - 1) l N R J Jx hY hJ T S L G ([] ++ oneG) W2 HR2.out t HT.out (by have := hs.t; omega) HJ2.out (by have := HN.out; simp only [List.length_append, List.length_nil, oneG, List.length_cons]; omega))
    obtain ⟨d0, d1, d2, d3⟩ := HP2.out
    clear hJ2 hk2
    gi_wp2
    refine ⟨trivial, wide_room, HO.out.mono ?_⟩
    clear HO
    rintro e W3 (⟨rfl, hJ3, hk3⟩ | ⟨rfl, q, hq, hx⟩)
    · have HP3 := Lib.hid (HP2.out.kept hk3 hb)
      have HJ3 := Lib.hid hJ3
      have HR3 := Lib.hid (fun i (hi : W3.heap.size ≤ i) => HR2.out i (Nat.le_trans hk3.size hi))
      have HO := Lib.hid (ofSlots_in (n - 1) l N R J Jx hY hJ T S L G (([] ++ oneG) ++ thrG T t) W3 HR3.out lv s HL.out HS.out (by have := hs.l; omega) (by have := hs.s; omega) HJ3.out (by have := HN.out; simp only [List.length_append, List.length_nil, oneG, List.length_cons, thr_length]; omega))
      clear d0 d1 d2 d3
      obtain ⟨d0, d1, d2, d3⟩ := HP3.out
      clear hJ3 hk3
      gi_wp2
      refine ⟨trivial, wide_room, HO.out.mono ?_⟩
      clear HO
      rintro e W4 (⟨rfl, hJ4, hk4⟩ | ⟨rfl, q, hq, hx⟩)
      · gi_wp2
        go_end0
        exact ⟨⟨_, rfl⟩, .inl ⟨_, rfl, by simpa using hJ4⟩⟩
      · gi_wp2
        go_end0
        exact ⟨⟨_, rfl⟩, .inr ⟨oneG ++ (thrG T t ++ q), (List.prefix_append_right_inj _).2 ((List.prefix_append_right_inj _).2 hq), by simpa using hx⟩⟩
    · gi_wp2
      repeat ((first | (with_reducible refine ⟨fun _ h => (by cases h), ?_⟩) | refine ⟨trivial, ?_⟩); gi_wp2)
      go_end0
      exact ⟨⟨_, rfl⟩, .inr ⟨oneG ++ q, (List.prefix_append_right_inj _).2 (hq.trans (List.prefix_append _ _)), by simpa using hx⟩⟩
  · gi_wp2
    repeat ((first | (with_reducible refine ⟨fun _ h => (by cases h), ?_⟩) | refine ⟨trivial, ?_⟩); gi_wp2)
    go_end0
    exact ⟨⟨_, rfl⟩, .inr ⟨q, hq.trans (List.prefix_append _ _), by simpa using hx⟩⟩
set_option maxRecDepth 100000 in
set_option maxHeartbeats 2000000 in
theorem spots_no (n l : Nat) (J Jx : List PSp → World → Prop) (hJ : Abides J) (T S L G : Int) (hr : rightB T S L G = false) (b : Nat) (W : World) (hP : PlanAt b T S L G W) (h0 : J [] W) :
    CallsIn Fence.wide n Tryd.prog 28 #[.func (.yield l) #[] #[], .pointer (some ⟨b, 0, none⟩)] W fun e W' => (∃ v, e = .returned v) ∧ ((∃ xs, xs = gI T S L G ∧ J xs W') ∨ (∃ pre, pre <+: gI T S L G ∧ Jx pre W')) := by
  have HG := Lib.hid (show gI T S L G = [] by unfold gI; rw [hr]; rfl)
  rw [HG.out]
  have HR := Lib.hid hr
  clear hr
  refine callsIn_of_wp Tryd.func28 rfl trivial ?_ rfl
  simp only [Tryd.ntmps28, List.size_toArray, List.length_cons, List.length_nil, Nat.reduceAdd, Nat.reduceSub, Array.replicate_succ, Array.replicate_zero, List.push_toArray, List.append_toArray, List.nil_append, List.cons_append]
  obtain ⟨d0, d1, d2, d3⟩ := hP
  gi_wp2
  refine ⟨trivial, wide_room, (in_wide _ (Plan.Right_no HR.out _)).mono ?_⟩
  rintro e W1 ⟨rfl, hb1⟩
  have HJ1 := Lib.hid (hJ _ _ _ h0 hb1)
  gi_wp2
  go_end0
  exact ⟨⟨_, rfl⟩, .inl ⟨_, rfl, HJ1.out⟩⟩
theorem spots1_in (n l N : Nat) (R : Nat → Prop) (J Jx : List PSp → World → Prop) (hY : YieldsTo Tryd.prog R encs J Jx l N) (hJ : Abides J) (T S L G : Int) (b : Nat) (W : World) (hb : ¬ R b) (hP : PlanAt b T S L G W) (hR : ∀ k, W.heap.size ≤ k → ¬ R k) (h0 : J [] W) (hN : (gI T S L G).length ≤ N) :
    CallsIn Fence.wide n Tryd.prog 28 #[.func (.yield l) #[] #[], .pointer (some ⟨b, 0, none⟩)] W fun e W' => (∃ v, e = .returned v) ∧ ((∃ xs, xs = gI T S L G ∧ J xs W') ∨ (∃ pre, pre <+: gI T S L G ∧ Jx pre W')) := by
  cases h : rightB T S L G
  · exact spots_no n l J Jx hJ T S L G h b W hP h0
  · exact spots_yes n l N R J Jx hY hJ T S L G h b W hb hP hR h0 hN
/-- The iterator, as a loop over it wants it. -/
theorem spots_stops (n : Nat) (R : Nat → Prop) (T S L G : Int) (b : Nat) (w : World) (hb : ¬ R b) (hP : PlanAt b T S L G w) (hR : ∀ k, w.heap.size ≤ k → ¬ R k) (hbl : b < w.heap.size) :
    SeqStopsK Fence.wide n Tryd.prog 28 #[.pointer (some ⟨b, 0, none⟩)] encs (Kept R) (fun xs => xs = gI T S L G) (fun pre => pre <+: gI T S L G) (gI T S L G).length w := fun l J Jx W hW hJ _ hY h0 =>
  spots1_in n l (gI T S L G).length R J Jx (fun m pre x W1 hj hl => yield_any rfl m (hY pre x W1 hj hl))
    (fun pre A B hj hb => hJ pre A B none hj (grownBy_below hb) (fun r e => by cases e)) T S L G b W hb
    ⟨(hW.cell (p := ⟨b, 0, none⟩) hbl).trans hP.c0, (hW.cell (p := ⟨b, 1, none⟩) hbl).trans hP.c1, (hW.cell (p := ⟨b, 2, none⟩) hbl).trans hP.c2, (hW.cell (p := ⟨b, 3, none⟩) hbl).trans hP.c3⟩
    (fun k hk => hR k (Nat.le_trans hW.size hk)) h0 (Nat.le_refl _)
/-- What the loops range over. -/
theorem spots_in (n : Nat) (T S L G : Int) (w : World) :
    CallsIn Fence.wide n Tryd.prog 20 #[.agg #[.int .i64 T, .int .i64 S, .int .i64 L, .int .u64 G]] w fun e w' => e = .returned (.func (.func 28) #[] #[.pointer (some ⟨w.heap.size, 0, none⟩)]) ∧ w' = w.alloc (.cells #[.int .i64 T, .int .i64 S, .int .i64 L, .int .u64 G] 24) := by
  refine callsIn_of_wp Tryd.func20 rfl trivial ?_ rfl
  simp only [Tryd.ntmps20, List.size_toArray, List.length_cons, List.length_nil, Nat.reduceAdd, Nat.reduceSub, Array.replicate_succ, Array.replicate_zero, List.push_toArray, List.append_toArray, List.nil_append, List.cons_append]
  gi_wp2
  go_ret
  exact ⟨rfl, rfl⟩
end Go.Proofs.YtjmkbcdolkgcgaaDoor.Place

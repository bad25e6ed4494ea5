/- Law 12's example; slots taken and given back on a memory whose free slots are a stack. -/
import Derived.Test.YtmeghmlojnbmbaaDoorPoolAlone
import Derived.Test.YtmeghmlojnbmbaaDoorBlankFreeWalks
namespace Go.Proofs.YtmeghmlojnbmbaaDoor.Law12
set_option maxRecDepth 20000
open Go.ChangeShapes Go.WideShapes Go.ChangeAt Go.RowKit CM DM PM PoM Runs Lay Plan Pool Go.Proofs.YtmeghmlojnbmbaaDoor.Task
open Go.Proofs.YtmeghmlojnbmbaaDoor.Cells (Mem Makes)
set_option linter.unusedVariables false
set_option linter.unusedSimpArgs false

theorem wf_u64 {a : Int} (h : (Lit.int .u64 a).wf = true) : 0 ≤ a ∧ a < 18446744073709551616 := by
  simp [Lit.wf, IntKind.min, IntKind.max, IntKind.signed, IntKind.bits] at h; omega

/-- A memory whose free slots are a stack. -/
def StackMem (w : World) (pc h n T S L : Nat) (r : List Int) : Prop := ∃ l, Mem w pc h n l ∧ BM.Fits l ∧ l.length = wordsN T S L ∧ Stack T L l r ∧ BM.Good S r
theorem StackMem.lt {w : World} {pc h n T S L : Nat} {r : List Int} (hM : StackMem w pc h n T S L r) : pc < w.heap.size ∧ h < w.heap.size := by
  obtain ⟨l, hm, _⟩ := hM
  exact hm.lt
theorem StackMem.only {w w' : World} {pc h n T S L : Nat} {r : List Int} {R : Nat → Prop} (hM : StackMem w pc h n T S L r) (ho : Only R w w') (h1 : ¬ R pc) (h2 : ¬ R h) : StackMem w' pc h n T S L r := by
  obtain ⟨l, hm, hr⟩ := hM
  exact ⟨l, ⟨hm.1, hm.2.1, hm.2.2.1, ho.cell hm.box h1, ho.own hm.own (fun k e => by cases e; exact h2)⟩, hr⟩
theorem StackMem.later {w w' : World} {pc h n T S L : Nat} {r : List Int} (hM : StackMem w pc h n T S L r) (hb : Below w.heap.size w w') : StackMem w' pc h n T S L r := hM.only (only_below (fun _ => False) hb) id id
theorem there3 {l : List Int} {T S L : Nat} (h : l.length = wordsN T S L) : there l 3 := by
  unfold there
  unfold wordsN at h
  omega

theorem pop_top {pc h n T S L : Nat} {w : World} {x : Int} {r : List Int} (G : Int) (hT : T ≤ 8) (hS : S ≤ 64) (hL : L ≤ 8) (hM : StackMem w pc h n T S L (x :: r)) :
    Calls Tryd.prog 19 #[.pointer (some ⟨pc, 0, none⟩), .agg #[.int .i64 (T : Int), .int .i64 (S : Int), .int .i64 (L : Int), .int .u64 G]] w fun e w' => e = .returned (.int .i64 x) ∧ StackMem w' pc h n T S L r ∧ Only (fun k => k = h) w w' := by
  obtain ⟨l, hm, hf, hl, hs, hg⟩ := hM
  obtain ⟨h1, h2⟩ := stack_pop hT hS hL hs hg (there3 hl)
  have hx := hg.2 x List.mem_cons_self
  refine (pop_alone (T : Int) (S : Int) (L : Int) G 0 hm hf (pop_some 16 (by omega)) (popA_0 _ _ _ _)).mono ?_
  rintro e w' ⟨he, hm', hf', ho⟩
  refine ⟨by rw [he, popI_0, h1], ⟨_, hm', hf', by rw [popL_length]; exact hl, h2, ⟨(List.nodup_cons.1 hg.1).2, fun y hy => hg.2 y (List.mem_cons_of_mem _ hy)⟩⟩, ho⟩
theorem pop_empty {pc h n T S L : Nat} {w : World} (G : Int) (hM : StackMem w pc h n T S L []) :
    Calls Tryd.prog 19 #[.pointer (some ⟨pc, 0, none⟩), .agg #[.int .i64 (T : Int), .int .i64 (S : Int), .int .i64 (L : Int), .int .u64 G]] w fun e w' => e = .returned (.int .i64 0) ∧ StackMem w' pc h n T S L [] ∧ Only (fun k => k = h) w w' := by
  obtain ⟨l, hm, hf, hl, hs, hg⟩ := hM
  have h1 := stack_none hs
  refine (pop_alone (T : Int) (S : Int) (L : Int) G 0 hm hf (pop_none 18 h1) (popA_0 _ _ _ _)).mono ?_
  rintro e w' ⟨he, hm', hf', ho⟩
  exact ⟨by rw [he, popI_0, h1], ⟨_, hm', hf', hl, hs, hg⟩, ho⟩
theorem push_on {pc h n T S L : Nat} {w : World} {i : Int} {r : List Int} (G : Int) (hT : T ≤ 8) (hS : S ≤ 64) (hL : L ≤ 8) (hM : StackMem w pc h n T S L r) (hg2 : BM.Good S (i :: r)) :
    Calls Tryd.prog 20 #[.pointer (some ⟨pc, 0, none⟩), .agg #[.int .i64 (T : Int), .int .i64 (S : Int), .int .i64 (L : Int), .int .u64 G], .int .i64 i] w fun e w' => e = .returned (.bool true) ∧ StackMem w' pc h n T S L (i :: r) ∧ Only (fun k => k = h) w w' := by
  obtain ⟨l, hm, hf, hl, hs, hg⟩ := hM
  obtain ⟨h1, h2⟩ := stack_push hT hS hL hs hg2 hl
  refine (push_alone (T : Int) (S : Int) (L : Int) G i hm hf (push_some 16 h1) (pushA_0 _ _ _ _ _)).mono ?_
  rintro e w' ⟨he, hm', hf', ho⟩
  exact ⟨he, ⟨_, hm', hf', by rw [pushL_length]; exact hl, h2, hg2⟩, ho⟩
theorem Make_stack {T S L : Nat} {G : Int} (hr : rightB (T : Int) (S : Int) (L : Int) G = true) (hG : 0 ≤ G) (w : World) : Calls Tryd.prog 18 #[.agg #[.int .i64 (T : Int), .int .i64 (S : Int), .int .i64 (L : Int), .int .u64 G]] w fun e w' => ∃ p h n, e = .returned (.tuple #[.pointer (some ⟨p, 0, none⟩), .int .i64 0]) ∧ StackMem w' p h n T S L (BM.firstL S) ∧ w.heap.size ≤ p ∧ w.heap.size ≤ h ∧ Below w.heap.size w w' := by
  obtain ⟨t1, t8, s1, s64, l1, l8⟩ := Blank.right_nat hr
  refine (Blank.Make_yes hr hG w).mono ?_
  rintro e w' ⟨p, h, he, hm, h1, h2, hb⟩
  exact ⟨p, h, _, he, ⟨_, hm, BM.fits_lay _ _ _ ⟨SM.stI_lo _ _, SM.stI_hi _ _⟩ (by omega) _, BM.lay_length _ _ _ _ _ _, stack_first _ t8 s1 s64 l8, good_first S⟩, h1, h2, hb⟩
theorem plan4 {w w' : World} {N : Nat} {R : Nat → Prop} {T S L G : Int} (h : w.cell? ⟨N, 0, none⟩ = some (.int .i64 T) ∧ w.cell? ⟨N, 1, none⟩ = some (.int .i64 S) ∧ w.cell? ⟨N, 2, none⟩ = some (.int .i64 L) ∧ w.cell? ⟨N, 3, none⟩ = some (.int .u64 G)) (ho : Only R w w') (hr : ¬ R N) :
    w'.cell? ⟨N, 0, none⟩ = some (.int .i64 T) ∧ w'.cell? ⟨N, 1, none⟩ = some (.int .i64 S) ∧ w'.cell? ⟨N, 2, none⟩ = some (.int .i64 L) ∧ w'.cell? ⟨N, 3, none⟩ = some (.int .u64 G) :=
  ⟨ho.cell h.1 hr, ho.cell h.2.1 hr, ho.cell h.2.2.1 hr, ho.cell h.2.2.2 hr⟩

theorem make_ex (w : World) : Calls Tryd.prog 18 #[.agg #[.int .i64 1, .int .i64 3, .int .i64 1, .int .u64 0]] w fun e w' => ∃ p h n, e = .returned (.tuple #[.pointer (some ⟨p, 0, none⟩), .int .i64 0]) ∧ StackMem w' p h n 1 3 1 [1, 2, 3] ∧ w.heap.size ≤ p ∧ w.heap.size ≤ h ∧ Below w.heap.size w w' :=
  Make_stack (T := 1) (S := 3) (L := 1) (G := 0) (by decide) (by decide) w
theorem pop_ex {pc h n : Nat} {w : World} {x : Int} {r : List Int} (hM : StackMem w pc h n 1 3 1 (x :: r)) : Calls Tryd.prog 19 #[.pointer (some ⟨pc, 0, none⟩), .agg #[.int .i64 1, .int .i64 3, .int .i64 1, .int .u64 0]] w fun e w' => e = .returned (.int .i64 x) ∧ StackMem w' pc h n 1 3 1 r ∧ Only (fun k => k = h) w w' :=
  pop_top 0 (by decide) (by decide) (by decide) hM
theorem push_ex {pc h n : Nat} {w : World} {r : List Int} (hM : StackMem w pc h n 1 3 1 r) (hg : BM.Good 3 (1 :: r)) : Calls Tryd.prog 20 #[.pointer (some ⟨pc, 0, none⟩), .agg #[.int .i64 1, .int .i64 3, .int .i64 1, .int .u64 0], .int .i64 1] w fun e w' => e = .returned (.bool true) ∧ StackMem w' pc h n 1 3 1 (1 :: r) ∧ Only (fun k => k = h) w w' :=
  push_on 0 (by decide) (by decide) (by decide) hM hg
theorem awake_any (w : World) : Calls Tryd.prog 6 #[] w fun e w' => e = .returned (.bool true) ∧ Below w.heap.size w w' := by
  have HC := Lib.hid (box4 w (.int .i64 1) (.int .i64 3) (.int .i64 1) (.int .u64 0) 24)
  have HB0 := Lib.hid (box_below w (.cells #[.int .i64 1, .int .i64 3, .int .i64 1, .int .u64 0] 24))
  go_enter Tryd.func6, Tryd.ntmps6
  go_wp2_with fail
  refine (make_ex _).mono ?_
  rintro e w1 ⟨p, h, n, rfl, m1, p1, h1, b1⟩
  have HNE := Lib.hid (show w.heap.size ≤ p ∧ ¬ w.heap.size = h ∧ w.heap.size ≤ h by simp at p1 h1; omega)
  have HM1 := Lib.hid m1
  have HC1 := Lib.hid (plan4 HC.out (only_below (fun _ => False) b1) id)
  have HB1 := Lib.hid (HB0.out.trans (b1.mono HB0.out.size))
  clear m1 p1 h1 b1
  obtain ⟨c_0, c_1, c_2, c_3⟩ := HC1.out
  go_wp2_with fail
  refine (pop_ex HM1.out).mono ?_
  rintro e w2 ⟨rfl, m2, o2⟩
  have HM2 := Lib.hid m2
  have HC2 := Lib.hid (plan4 HC1.out o2 HNE.out.2.1)
  have HB2 := Lib.hid (HB1.out.trans (o2.below HB1.out.size (fun k e => by subst e; exact HNE.out.2.2)))
  clear m2 o2 c_0 c_1 c_2 c_3
  obtain ⟨c_0, c_1, c_2, c_3⟩ := HC2.out
  go_wp2_with fail
  refine (pop_ex HM2.out).mono ?_
  rintro e w3 ⟨rfl, m3, o3⟩
  have HM3 := Lib.hid m3
  have HC3 := Lib.hid (plan4 HC2.out o3 HNE.out.2.1)
  have HB3 := Lib.hid (HB2.out.trans (o3.below HB2.out.size (fun k e => by subst e; exact HNE.out.2.2)))
  clear m3 o3 c_0 c_1 c_2 c_3
  obtain ⟨c_0, c_1, c_2, c_3⟩ := HC3.out
  go_wp2_with fail
  refine (push_ex HM3.out ⟨by decide, by decide⟩).mono ?_
  rintro e w4 ⟨rfl, m4, o4⟩
  have HM4 := Lib.hid m4
  have HC4 := Lib.hid (plan4 HC3.out o4 HNE.out.2.1)
  have HB4 := Lib.hid (HB3.out.trans (o4.below HB3.out.size (fun k e => by subst e; exact HNE.out.2.2)))
  clear m4 o4 c_0 c_1 c_2 c_3
  obtain ⟨c_0, c_1, c_2, c_3⟩ := HC4.out
  go_wp2_with fail
  refine (pop_ex HM4.out).mono ?_
  rintro e w5 ⟨rfl, m5, o5⟩
  go_wp2
  go_ret
  exact ⟨rfl, HB4.out.trans (o5.below HB4.out.size (fun k e => by subst e; exact HNE.out.2.2))⟩
end Go.Proofs.YtmeghmlojnbmbaaDoor.Law12

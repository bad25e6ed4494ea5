/- PlaceBack: for every plan p, every number at and every spot s: the word at the place at of p has a kind of spot just if p is right and there is such a word, and then it is where its spot stands, else its spot is the empty one; and s stands nowhere, or at a place where just it stands; and the chapter's examples come out; the arguments read as they did. Conditions: the program's table of names and the library's listed tables hold what their own texts lay in them (tied by the card). -/
import Derived.Test.YtjmkbcdolkgcgaaDoorPlaceAwake
import Derived.Test.YtjmkbcdolkgcgaaDoorFour
import Derived.Test.YtjmkbcdolkgcgaaDoorThree
import Derived.Test.YtjmkbcdolkgcgaaDoorFrame
import Derived.Test.YtjmkbcdolkgcgaaDoorCards
namespace Go.Proofs.YtjmkbcdolkgcgaaDoor.PlaceBack
open Go.ChangeShapes Go.WideShapes Go.ChangeAt Go.RowKit PM Lay Str Fmt Num PlaceText
open Go.Proofs.YtjmkbcdolkgcgaaDoor.Place (spotV)
open Go.Proofs.YtjmkbcdolkgcgaaDoor.Law09 (Held)
set_option linter.unusedVariables false

theorem held {W : World} (h : laidMetH Tryd.prog Rows.placeBackRow.laid W) : Held W :=
  Law09.held_of h (by kernel_rfl) (List.mem_of_getElem? (i := 3) rfl) (List.mem_of_getElem? (i := 2) rfl)

theorem words_is {T S L G n : Int} (h : atI T L (wrap64 (S + 1)) 0 = n) (w : World) : Calls Tryd.prog 14 #[.agg #[.int .i64 T, .int .i64 S, .int .i64 L, .int .u64 G]] w fun e w' => e = .returned (.int .i64 n) ∧ Below w.heap.size w w' := by
  rw [← h]
  exact Plan.Words_any T S L G w
theorem mixed : Tryd.prog.follows .mixedOrders = true := by kernel_rfl
/-- What the law holds of memory: the plan's box, the spot's box, the tables, and that nothing that lay has turned. -/
structure Has (w : World) (T S L G k o l : Int) (W : World) : Prop where
  p : Place.PlanAt w.heap.size T S L G W
  s : Place.SpotAt W (w.heap.size + 1) (k, o, l)
  h : Held W
  b : Below w.heap.size w W
theorem Has.later {w : World} {T S L G k o l : Int} {A B : World} (h : Has w T S L G k o l A) (hb : Below A.heap.size A B) : Has w T S L G k o l B :=
  ⟨h.p.below hb, h.s.kept (grownBy_below hb) (by simp), h.h.later hb, h.b.trans (hb.mono h.b.size)⟩
theorem has_new {w : World} (T S L G k o l : Int) (hL : Held w) : Has w T S L G k o l ((w.alloc (.cells #[.int .i64 T, .int .i64 S, .int .i64 L, .int .u64 G] 24)).alloc (.cells #[.int .i64 k, .int .i64 o, .int .i64 l] 26)) := by
  have hb : Below w.heap.size w ((w.alloc (.cells #[.int .i64 T, .int .i64 S, .int .i64 L, .int .u64 G] 24)).alloc (.cells #[.int .i64 k, .int .i64 o, .int .i64 l] 26)) := (box2 w #[.int .i64 T, .int .i64 S, .int .i64 L, .int .u64 G] #[.int .i64 k, .int .i64 o, .int .i64 l] 24 26).1
  have hs := Place.SpotAt.new (w.alloc (.cells #[.int .i64 T, .int .i64 S, .int .i64 L, .int .u64 G] 24)) (k, o, l)
  rw [World.size_alloc] at hs
  exact ⟨(Place.planAt_new T S L G w).below (spot_below _ _), hs, hL.later hb, hb⟩

set_option maxHeartbeats 4000000 in
theorem walk_there_no (T S L G i k o l a b c : Int) (hr : rightB T S L G = true) (h0 : 0 ≤ i) (h1 : i < atI T L (wrap64 (S + 1)) 0) (hx : whatI T S L G i = (a, b, c)) (ha : 1 ≤ a) (hw : whereI T S L G (a, b, c) = i) (hm : whereI T S L G (k, o, l) = -1) (w : World) (hL : Held w) :
    Calls Tryd.prog 4 #[.agg #[.int .i64 T, .int .i64 S, .int .i64 L, .int .u64 G], .int .i64 i, .agg #[.int .i64 k, .int .i64 o, .int .i64 l]] w fun e w' => e = .returned (.bool true) ∧ Below w.heap.size w w' := by
  have HH := Lib.hid (has_new T S L G k o l hL)
  have HR := Lib.hid hr
  have HM := Lib.hid hm
  have HX := Lib.hid hx
  have HWX := Lib.hid hw
  obtain ⟨n, hn⟩ : ∃ n, atI T L (wrap64 (S + 1)) 0 = n := ⟨_, rfl⟩
  have HN := Lib.hid fun w => words_is (S := S) (G := G) hn w
  rw [hn] at h1
  have a0 : (a != 0) = true := by simp; omega
  have a1 : ¬ a = 0 := by omega
  clear hr hL hm hx hw hn ha
  go_enter Tryd.func4, Tryd.ntmps4
  go_wp2_with fail
  refine (Law09.What_is HX.out _).mono ?_
  rintro e w1 ⟨rfl, h⟩
  have H1 := Lib.hid ((HH.out.later h).later (spot_below w1 (.cells #[.int .i64 a, .int .i64 b, .int .i64 c] 26)))
  have X1 := Lib.hid (Place.SpotAt.new w1 (a, b, c))
  clear h
  obtain ⟨c0, c1, c2, c3⟩ := H1.out.p
  go_wp2_with fail
  refine (Plan.Right_yes HR.out _).mono ?_
  rintro e w2 ⟨rfl, h⟩
  have H2 := Lib.hid (H1.out.later h)
  have X2 := Lib.hid (X1.out.kept (grownBy_below h) (by simp))
  clear h c0 c1 c2 c3
  obtain ⟨c0, c1, c2, c3⟩ := H2.out.p
  obtain ⟨⟨x0, x1, x2⟩, _⟩ := X2.out.cells
  dsimp only at x0 x1 x2
  go_wp2_with fail
  refine (HN.out _).mono ?_
  rintro e w3 ⟨rfl, h⟩
  have H3 := Lib.hid (H2.out.later h)
  have X3 := Lib.hid (X2.out.kept (grownBy_below h) (by simp))
  clear h c0 c1 c2 c3
  obtain ⟨c0, c1, c2, c3⟩ := H3.out.p
  clear x0 x1 x2
  obtain ⟨⟨x0, x1, x2⟩, _⟩ := X3.out.cells
  dsimp only at x0 x1 x2
  go_wp2_with fail
  refine (Law09.Where_is HWX.out _).mono ?_
  rintro e w4 ⟨rfl, h⟩
  have H4 := Lib.hid (H3.out.later h)
  have X4 := Lib.hid (X3.out.kept (grownBy_below h) (by simp))
  clear h c0 c1 c2 c3
  obtain ⟨c0, c1, c2, c3⟩ := H4.out.p
  clear x0 x1 x2
  obtain ⟨⟨x0, x1, x2⟩, _⟩ := X4.out.cells
  dsimp only at x0 x1 x2
  obtain ⟨⟨d0, d1, d2⟩, _⟩ := H4.out.s.cells
  dsimp only at d0 d1 d2
  go_wp2_with fail
  refine (Law09.Where_is HM.out _).mono ?_
  rintro e w5 ⟨rfl, h⟩
  have H5 := Lib.hid (H4.out.later h)
  clear h c0 c1 c2 c3 d0 d1 d2 x0 x1 x2
  obtain ⟨c0, c1, c2, c3⟩ := H5.out.p
  obtain ⟨⟨d0, d1, d2⟩, _⟩ := H5.out.s.cells
  dsimp only at d0 d1 d2
  have K_c0 := fun p : After w5 => p.cell c0
  have K_c1 := fun p : After w5 => p.cell c1
  have K_c2 := fun p : After w5 => p.cell c2
  have K_c3 := fun p : After w5 => p.cell c3
  have K_d0 := fun p : After w5 => p.cell d0
  have K_d1 := fun p : After w5 => p.cell d1
  have K_d2 := fun p : After w5 => p.cell d2
  clear c0 c1 c2 c3 d0 d1 d2
  go_wp2
  refine wp_region_after mixed (by kernel_rfl) ?_
  repeat (first | go_big_quiet_step ((exact calls_after (Law09.awake_any _ (H5.out.h.later (After.ok _))))) | quiet_step ((exact calls_after (Law09.awake_any _ (H5.out.h.later (After.ok _))))))
  refine wpQuiet_nil ?_
  intro _ hw'
  obtain ⟨pq, hw''⟩ := hw'
  subst hw''
  go_wp2
  go_ret
  exact ⟨rfl, H5.out.b.trans (pq.ok.mono H5.out.b.size)⟩
set_option maxHeartbeats 4000000 in
theorem walk_there_yes (T S L G i k o l a b c : Int) (hr : rightB T S L G = true) (h0 : 0 ≤ i) (h1 : i < atI T L (wrap64 (S + 1)) 0) (hx : whatI T S L G i = (a, b, c)) (ha : 1 ≤ a) (hw : whereI T S L G (a, b, c) = i) (m : Nat) (hm : whereI T S L G (k, o, l) = (m : Int)) (hq : whatI T S L G (m : Int) = (k, o, l)) (w : World) (hL : Held w) :
    Calls Tryd.prog 4 #[.agg #[.int .i64 T, .int .i64 S, .int .i64 L, .int .u64 G], .int .i64 i, .agg #[.int .i64 k, .int .i64 o, .int .i64 l]] w fun e w' => e = .returned (.bool true) ∧ Below w.heap.size w w' := by
  have HH := Lib.hid (has_new T S L G k o l hL)
  have HR := Lib.hid hr
  have HM := Lib.hid hm
  have HX := Lib.hid hx
  have HWX := Lib.hid hw
  obtain ⟨n, hn⟩ : ∃ n, atI T L (wrap64 (S + 1)) 0 = n := ⟨_, rfl⟩
  have HN := Lib.hid fun w => words_is (S := S) (G := G) hn w
  rw [hn] at h1
  have a0 : (a != 0) = true := by simp; omega
  have a1 : ¬ a = 0 := by omega
  have HQ := Lib.hid hq
  have m0 : (0 : Int) ≤ (m : Int) := by omega
  have m1 : ¬ (m : Int) = -1 := by omega
  have m2 : ((m : Int) == -1) = false := by simp <;> omega
  clear hr hL hm hx hw hn ha hq
  go_enter Tryd.func4, Tryd.ntmps4
  go_wp2_with fail
  refine (Law09.What_is HX.out _).mono ?_
  rintro e w1 ⟨rfl, h⟩
  have H1 := Lib.hid ((HH.out.later h).later (spot_below w1 (.cells #[.int .i64 a, .int .i64 b, .int .i64 c] 26)))
  have X1 := Lib.hid (Place.SpotAt.new w1 (a, b, c))
  clear h
  obtain ⟨c0, c1, c2, c3⟩ := H1.out.p
  go_wp2_with fail
  refine (Plan.Right_yes HR.out _).mono ?_
  rintro e w2 ⟨rfl, h⟩
  have H2 := Lib.hid (H1.out.later h)
  have X2 := Lib.hid (X1.out.kept (grownBy_below h) (by simp))
  clear h c0 c1 c2 c3
  obtain ⟨c0, c1, c2, c3⟩ := H2.out.p
  obtain ⟨⟨x0, x1, x2⟩, _⟩ := X2.out.cells
  dsimp only at x0 x1 x2
  go_wp2_with fail
  refine (HN.out _).mono ?_
  rintro e w3 ⟨rfl, h⟩
  have H3 := Lib.hid (H2.out.later h)
  have X3 := Lib.hid (X2.out.kept (grownBy_below h) (by simp))
  clear h c0 c1 c2 c3
  obtain ⟨c0, c1, c2, c3⟩ := H3.out.p
  clear x0 x1 x2
  obtain ⟨⟨x0, x1, x2⟩, _⟩ := X3.out.cells
  dsimp only at x0 x1 x2
  go_wp2_with fail
  refine (Law09.Where_is HWX.out _).mono ?_
  rintro e w4 ⟨rfl, h⟩
  have H4 := Lib.hid (H3.out.later h)
  have X4 := Lib.hid (X3.out.kept (grownBy_below h) (by simp))
  clear h c0 c1 c2 c3
  obtain ⟨c0, c1, c2, c3⟩ := H4.out.p
  clear x0 x1 x2
  obtain ⟨⟨x0, x1, x2⟩, _⟩ := X4.out.cells
  dsimp only at x0 x1 x2
  obtain ⟨⟨d0, d1, d2⟩, _⟩ := H4.out.s.cells
  dsimp only at d0 d1 d2
  go_wp2_with fail
  refine (Law09.Where_is HM.out _).mono ?_
  rintro e w5 ⟨rfl, h⟩
  have H5 := Lib.hid (H4.out.later h)
  clear h c0 c1 c2 c3 d0 d1 d2 x0 x1 x2
  obtain ⟨c0, c1, c2, c3⟩ := H5.out.p
  obtain ⟨⟨d0, d1, d2⟩, _⟩ := H5.out.s.cells
  dsimp only at d0 d1 d2
  have K_c0 := fun p : After w5 => p.cell c0
  have K_c1 := fun p : After w5 => p.cell c1
  have K_c2 := fun p : After w5 => p.cell c2
  have K_c3 := fun p : After w5 => p.cell c3
  have K_d0 := fun p : After w5 => p.cell d0
  have K_d1 := fun p : After w5 => p.cell d1
  have K_d2 := fun p : After w5 => p.cell d2
  clear c0 c1 c2 c3 d0 d1 d2
  go_wp2
  refine wp_region_after mixed (by kernel_rfl) ?_
  repeat (first | go_big_quiet_step ((first | (with_reducible exact calls_after (Law09.What_is HQ.out _)) | exact calls_after (Law09.awake_any _ (H5.out.h.later (After.ok _))))) | quiet_step ((first | (with_reducible exact calls_after (Law09.What_is HQ.out _)) | exact calls_after (Law09.awake_any _ (H5.out.h.later (After.ok _))))))
  refine wpQuiet_nil ?_
  intro _ hw'
  obtain ⟨pq, hw''⟩ := hw'
  subst hw''
  go_wp2
  go_ret
  exact ⟨rfl, H5.out.b.trans (pq.ok.mono H5.out.b.size)⟩
set_option maxHeartbeats 4000000 in
theorem walk_wrong_no (T S L G i k o l : Int) (hr : rightB T S L G = false) (hm : whereI T S L G (k, o, l) = -1) (w : World) (hL : Held w) :
    Calls Tryd.prog 4 #[.agg #[.int .i64 T, .int .i64 S, .int .i64 L, .int .u64 G], .int .i64 i, .agg #[.int .i64 k, .int .i64 o, .int .i64 l]] w fun e w' => e = .returned (.bool true) ∧ Below w.heap.size w w' := by
  have HH := Lib.hid (has_new T S L G k o l hL)
  have HR := Lib.hid hr
  have HM := Lib.hid hm
  have HX := Lib.hid (back_wrong (i := i) hr)
  clear hr hL hm
  go_enter Tryd.func4, Tryd.ntmps4
  go_wp2_with fail
  refine (Law09.What_is HX.out _).mono ?_
  rintro e w1 ⟨rfl, h⟩
  have H1 := Lib.hid ((HH.out.later h).later (spot_below w1 (.cells #[.int .i64 0, .int .i64 0, .int .i64 0] 26)))
  have X1 := Lib.hid (Place.SpotAt.new w1 (0, 0, 0))
  clear h
  obtain ⟨c0, c1, c2, c3⟩ := H1.out.p
  go_wp2_with fail
  refine (Plan.Right_no HR.out _).mono ?_
  rintro e w2 ⟨rfl, h⟩
  have H2 := Lib.hid (H1.out.later h)
  have X2 := Lib.hid (X1.out.kept (grownBy_below h) (by simp))
  clear h c0 c1 c2 c3
  obtain ⟨c0, c1, c2, c3⟩ := H2.out.p
  obtain ⟨⟨x0, x1, x2⟩, _⟩ := X2.out.cells
  dsimp only at x0 x1 x2
  obtain ⟨⟨d0, d1, d2⟩, _⟩ := H2.out.s.cells
  dsimp only at d0 d1 d2
  go_wp2_with fail
  refine (Law09.Where_is HM.out _).mono ?_
  rintro e w3 ⟨rfl, h⟩
  have H3 := Lib.hid (H2.out.later h)
  clear h c0 c1 c2 c3 d0 d1 d2 x0 x1 x2
  obtain ⟨c0, c1, c2, c3⟩ := H3.out.p
  obtain ⟨⟨d0, d1, d2⟩, _⟩ := H3.out.s.cells
  dsimp only at d0 d1 d2
  have K_c0 := fun p : After w3 => p.cell c0
  have K_c1 := fun p : After w3 => p.cell c1
  have K_c2 := fun p : After w3 => p.cell c2
  have K_c3 := fun p : After w3 => p.cell c3
  have K_d0 := fun p : After w3 => p.cell d0
  have K_d1 := fun p : After w3 => p.cell d1
  have K_d2 := fun p : After w3 => p.cell d2
  clear c0 c1 c2 c3 d0 d1 d2
  go_wp2
  refine wp_region_after mixed (by kernel_rfl) ?_
  repeat (first | go_big_quiet_step ((exact calls_after (Law09.awake_any _ (H3.out.h.later (After.ok _))))) | quiet_step ((exact calls_after (Law09.awake_any _ (H3.out.h.later (After.ok _))))))
  refine wpQuiet_nil ?_
  intro _ hw'
  obtain ⟨pq, hw''⟩ := hw'
  subst hw''
  go_wp2
  go_ret
  exact ⟨rfl, H3.out.b.trans (pq.ok.mono H3.out.b.size)⟩
set_option maxHeartbeats 4000000 in
theorem walk_wrong_yes (T S L G i k o l : Int) (hr : rightB T S L G = false) (m : Nat) (hm : whereI T S L G (k, o, l) = (m : Int)) (hq : whatI T S L G (m : Int) = (k, o, l)) (w : World) (hL : Held w) :
    Calls Tryd.prog 4 #[.agg #[.int .i64 T, .int .i64 S, .int .i64 L, .int .u64 G], .int .i64 i, .agg #[.int .i64 k, .int .i64 o, .int .i64 l]] w fun e w' => e = .returned (.bool true) ∧ Below w.heap.size w w' := by
  have HH := Lib.hid (has_new T S L G k o l hL)
  have HR := Lib.hid hr
  have HM := Lib.hid hm
  have HX := Lib.hid (back_wrong (i := i) hr)
  have HQ := Lib.hid hq
  have m0 : (0 : Int) ≤ (m : Int) := by omega
  have m1 : ¬ (m : Int) = -1 := by omega
  have m2 : ((m : Int) == -1) = false := by simp <;> omega
  clear hr hL hm hq
  go_enter Tryd.func4, Tryd.ntmps4
  go_wp2_with fail
  refine (Law09.What_is HX.out _).mono ?_
  rintro e w1 ⟨rfl, h⟩
  have H1 := Lib.hid ((HH.out.later h).later (spot_below w1 (.cells #[.int .i64 0, .int .i64 0, .int .i64 0] 26)))
  have X1 := Lib.hid (Place.SpotAt.new w1 (0, 0, 0))
  clear h
  obtain ⟨c0, c1, c2, c3⟩ := H1.out.p
  go_wp2_with fail
  refine (Plan.Right_no HR.out _).mono ?_
  rintro e w2 ⟨rfl, h⟩
  have H2 := Lib.hid (H1.out.later h)
  have X2 := Lib.hid (X1.out.kept (grownBy_below h) (by simp))
  clear h c0 c1 c2 c3
  obtain ⟨c0, c1, c2, c3⟩ := H2.out.p
  obtain ⟨⟨x0, x1, x2⟩, _⟩ := X2.out.cells
  dsimp only at x0 x1 x2
  obtain ⟨⟨d0, d1, d2⟩, _⟩ := H2.out.s.cells
  dsimp only at d0 d1 d2
  go_wp2_with fail
  refine (Law09.Where_is HM.out _).mono ?_
  rintro e w3 ⟨rfl, h⟩
  have H3 := Lib.hid (H2.out.later h)
  clear h c0 c1 c2 c3 d0 d1 d2 x0 x1 x2
  obtain ⟨c0, c1, c2, c3⟩ := H3.out.p
  obtain ⟨⟨d0, d1, d2⟩, _⟩ := H3.out.s.cells
  dsimp only at d0 d1 d2
  have K_c0 := fun p : After w3 => p.cell c0
  have K_c1 := fun p : After w3 => p.cell c1
  have K_c2 := fun p : After w3 => p.cell c2
  have K_c3 := fun p : After w3 => p.cell c3
  have K_d0 := fun p : After w3 => p.cell d0
  have K_d1 := fun p : After w3 => p.cell d1
  have K_d2 := fun p : After w3 => p.cell d2
  clear c0 c1 c2 c3 d0 d1 d2
  go_wp2
  refine wp_region_after mixed (by kernel_rfl) ?_
  repeat (first | go_big_quiet_step ((first | (with_reducible exact calls_after (Law09.What_is HQ.out _)) | exact calls_after (Law09.awake_any _ (H3.out.h.later (After.ok _))))) | quiet_step ((first | (with_reducible exact calls_after (Law09.What_is HQ.out _)) | exact calls_after (Law09.awake_any _ (H3.out.h.later (After.ok _))))))
  refine wpQuiet_nil ?_
  intro _ hw'
  obtain ⟨pq, hw''⟩ := hw'
  subst hw''
  go_wp2
  go_ret
  exact ⟨rfl, H3.out.b.trans (pq.ok.mono H3.out.b.size)⟩
set_option maxHeartbeats 4000000 in
theorem walk_low_no (T S L G i k o l : Int) (hr : rightB T S L G = true) (h0 : i < 0) (hm : whereI T S L G (k, o, l) = -1) (w : World) (hL : Held w) :
    Calls Tryd.prog 4 #[.agg #[.int .i64 T, .int .i64 S, .int .i64 L, .int .u64 G], .int .i64 i, .agg #[.int .i64 k, .int .i64 o, .int .i64 l]] w fun e w' => e = .returned (.bool true) ∧ Below w.heap.size w w' := by
  have HH := Lib.hid (has_new T S L G k o l hL)
  have HR := Lib.hid hr
  have HM := Lib.hid hm
  have HX := Lib.hid (back_low (T := T) (S := S) (L := L) (G := G) h0)
  clear hr hL hm
  go_enter Tryd.func4, Tryd.ntmps4
  go_wp2_with fail
  refine (Law09.What_is HX.out _).mono ?_
  rintro e w1 ⟨rfl, h⟩
  have H1 := Lib.hid ((HH.out.later h).later (spot_below w1 (.cells #[.int .i64 0, .int .i64 0, .int .i64 0] 26)))
  have X1 := Lib.hid (Place.SpotAt.new w1 (0, 0, 0))
  clear h
  obtain ⟨c0, c1, c2, c3⟩ := H1.out.p
  go_wp2_with fail
  refine (Plan.Right_yes HR.out _).mono ?_
  rintro e w2 ⟨rfl, h⟩
  have H2 := Lib.hid (H1.out.later h)
  have X2 := Lib.hid (X1.out.kept (grownBy_below h) (by simp))
  clear h c0 c1 c2 c3
  obtain ⟨c0, c1, c2, c3⟩ := H2.out.p
  obtain ⟨⟨x0, x1, x2⟩, _⟩ := X2.out.cells
  dsimp only at x0 x1 x2
  obtain ⟨⟨d0, d1, d2⟩, _⟩ := H2.out.s.cells
  dsimp only at d0 d1 d2
  go_wp2_with fail
  refine (Law09.Where_is HM.out _).mono ?_
  rintro e w3 ⟨rfl, h⟩
  have H3 := Lib.hid (H2.out.later h)
  clear h c0 c1 c2 c3 d0 d1 d2 x0 x1 x2
  obtain ⟨c0, c1, c2, c3⟩ := H3.out.p
  obtain ⟨⟨d0, d1, d2⟩, _⟩ := H3.out.s.cells
  dsimp only at d0 d1 d2
  have K_c0 := fun p : After w3 => p.cell c0
  have K_c1 := fun p : After w3 => p.cell c1
  have K_c2 := fun p : After w3 => p.cell c2
  have K_c3 := fun p : After w3 => p.cell c3
  have K_d0 := fun p : After w3 => p.cell d0
  have K_d1 := fun p : After w3 => p.cell d1
  have K_d2 := fun p : After w3 => p.cell d2
  clear c0 c1 c2 c3 d0 d1 d2
  go_wp2
  refine wp_region_after mixed (by kernel_rfl) ?_
  repeat (first | go_big_quiet_step ((exact calls_after (Law09.awake_any _ (H3.out.h.later (After.ok _))))) | quiet_step ((exact calls_after (Law09.awake_any _ (H3.out.h.later (After.ok _))))))
  refine wpQuiet_nil ?_
  intro _ hw'
  obtain ⟨pq, hw''⟩ := hw'
  subst hw''
  go_wp2
  go_ret
  exact ⟨rfl, H3.out.b.trans (pq.ok.mono H3.out.b.size)⟩
set_option maxHeartbeats 4000000 in
theorem walk_low_yes (T S L G i k o l : Int) (hr : rightB T S L G = true) (h0 : i < 0) (m : Nat) (hm : whereI T S L G (k, o, l) = (m : Int)) (hq : whatI T S L G (m : Int) = (k, o, l)) (w : World) (hL : Held w) :
    Calls Tryd.prog 4 #[.agg #[.int .i64 T, .int .i64 S, .int .i64 L, .int .u64 G], .int .i64 i, .agg #[.int .i64 k, .int .i64 o, .int .i64 l]] w fun e w' => e = .returned (.bool true) ∧ Below w.heap.size w w' := by
  have HH := Lib.hid (has_new T S L G k o l hL)
  have HR := Lib.hid hr
  have HM := Lib.hid hm
  have HX := Lib.hid (back_low (T := T) (S := S) (L := L) (G := G) h0)
  have HQ := Lib.hid hq
  have m0 : (0 : Int) ≤ (m : Int) := by omega
  have m1 : ¬ (m : Int) = -1 := by omega
  have m2 : ((m : Int) == -1) = false := by simp <;> omega
  clear hr hL hm hq
  go_enter Tryd.func4, Tryd.ntmps4
  go_wp2_with fail
  refine (Law09.What_is HX.out _).mono ?_
  rintro e w1 ⟨rfl, h⟩
  have H1 := Lib.hid ((HH.out.later h).later (spot_below w1 (.cells #[.int .i64 0, .int .i64 0, .int .i64 0] 26)))
  have X1 := Lib.hid (Place.SpotAt.new w1 (0, 0, 0))
  clear h
  obtain ⟨c0, c1, c2, c3⟩ := H1.out.p
  go_wp2_with fail
  refine (Plan.Right_yes HR.out _).mono ?_
  rintro e w2 ⟨rfl, h⟩
  have H2 := Lib.hid (H1.out.later h)
  have X2 := Lib.hid (X1.out.kept (grownBy_below h) (by simp))
  clear h c0 c1 c2 c3
  obtain ⟨c0, c1, c2, c3⟩ := H2.out.p
  obtain ⟨⟨x0, x1, x2⟩, _⟩ := X2.out.cells
  dsimp only at x0 x1 x2
  obtain ⟨⟨d0, d1, d2⟩, _⟩ := H2.out.s.cells
  dsimp only at d0 d1 d2
  go_wp2_with fail
  refine (Law09.Where_is HM.out _).mono ?_
  rintro e w3 ⟨rfl, h⟩
  have H3 := Lib.hid (H2.out.later h)
  clear h c0 c1 c2 c3 d0 d1 d2 x0 x1 x2
  obtain ⟨c0, c1, c2, c3⟩ := H3.out.p
  obtain ⟨⟨d0, d1, d2⟩, _⟩ := H3.out.s.cells
  dsimp only at d0 d1 d2
  have K_c0 := fun p : After w3 => p.cell c0
  have K_c1 := fun p : After w3 => p.cell c1
  have K_c2 := fun p : After w3 => p.cell c2
  have K_c3 := fun p : After w3 => p.cell c3
  have K_d0 := fun p : After w3 => p.cell d0
  have K_d1 := fun p : After w3 => p.cell d1
  have K_d2 := fun p : After w3 => p.cell d2
  clear c0 c1 c2 c3 d0 d1 d2
  go_wp2
  refine wp_region_after mixed (by kernel_rfl) ?_
  repeat (first | go_big_quiet_step ((first | (with_reducible exact calls_after (Law09.What_is HQ.out _)) | exact calls_after (Law09.awake_any _ (H3.out.h.later (After.ok _))))) | quiet_step ((first | (with_reducible exact calls_after (Law09.What_is HQ.out _)) | exact calls_after (Law09.awake_any _ (H3.out.h.later (After.ok _))))))
  refine wpQuiet_nil ?_
  intro _ hw'
  obtain ⟨pq, hw''⟩ := hw'
  subst hw''
  go_wp2
  go_ret
  exact ⟨rfl, H3.out.b.trans (pq.ok.mono H3.out.b.size)⟩
set_option maxHeartbeats 4000000 in
theorem walk_high_no (T S L G i k o l : Int) (hr : rightB T S L G = true) (h0 : 0 ≤ i) (h1 : atI T L (wrap64 (S + 1)) 0 ≤ i) (hm : whereI T S L G (k, o, l) = -1) (w : World) (hL : Held w) :
    Calls Tryd.prog 4 #[.agg #[.int .i64 T, .int .i64 S, .int .i64 L, .int .u64 G], .int .i64 i, .agg #[.int .i64 k, .int .i64 o, .int .i64 l]] w fun e w' => e = .returned (.bool true) ∧ Below w.heap.size w w' := by
  have HH := Lib.hid (has_new T S L G k o l hL)
  have HR := Lib.hid hr
  have HM := Lib.hid hm
  have HX := Lib.hid (back_high hr h1)
  obtain ⟨n, hn⟩ : ∃ n, atI T L (wrap64 (S + 1)) 0 = n := ⟨_, rfl⟩
  have HN := Lib.hid fun w => words_is (S := S) (G := G) hn w
  rw [hn] at h1
  clear hr hL hm hn
  go_enter Tryd.func4, Tryd.ntmps4
  go_wp2_with fail
  refine (Law09.What_is HX.out _).mono ?_
  rintro e w1 ⟨rfl, h⟩
  have H1 := Lib.hid ((HH.out.later h).later (spot_below w1 (.cells #[.int .i64 0, .int .i64 0, .int .i64 0] 26)))
  have X1 := Lib.hid (Place.SpotAt.new w1 (0, 0, 0))
  clear h
  obtain ⟨c0, c1, c2, c3⟩ := H1.out.p
  go_wp2_with fail
  refine (Plan.Right_yes HR.out _).mono ?_
  rintro e w2 ⟨rfl, h⟩
  have H2 := Lib.hid (H1.out.later h)
  have X2 := Lib.hid (X1.out.kept (grownBy_below h) (by simp))
  clear h c0 c1 c2 c3
  obtain ⟨c0, c1, c2, c3⟩ := H2.out.p
  obtain ⟨⟨x0, x1, x2⟩, _⟩ := X2.out.cells
  dsimp only at x0 x1 x2
  go_wp2_with fail
  refine (HN.out _).mono ?_
  rintro e w3 ⟨rfl, h⟩
  have H3 := Lib.hid (H2.out.later h)
  have X3 := Lib.hid (X2.out.kept (grownBy_below h) (by simp))
  clear h c0 c1 c2 c3
  obtain ⟨c0, c1, c2, c3⟩ := H3.out.p
  clear x0 x1 x2
  obtain ⟨⟨x0, x1, x2⟩, _⟩ := X3.out.cells
  dsimp only at x0 x1 x2
  obtain ⟨⟨d0, d1, d2⟩, _⟩ := H3.out.s.cells
  dsimp only at d0 d1 d2
  go_wp2_with fail
  refine (Law09.Where_is HM.out _).mono ?_
  rintro e w4 ⟨rfl, h⟩
  have H4 := Lib.hid (H3.out.later h)
  clear h c0 c1 c2 c3 d0 d1 d2 x0 x1 x2
  obtain ⟨c0, c1, c2, c3⟩ := H4.out.p
  obtain ⟨⟨d0, d1, d2⟩, _⟩ := H4.out.s.cells
  dsimp only at d0 d1 d2
  have K_c0 := fun p : After w4 => p.cell c0
  have K_c1 := fun p : After w4 => p.cell c1
  have K_c2 := fun p : After w4 => p.cell c2
  have K_c3 := fun p : After w4 => p.cell c3
  have K_d0 := fun p : After w4 => p.cell d0
  have K_d1 := fun p : After w4 => p.cell d1
  have K_d2 := fun p : After w4 => p.cell d2
  clear c0 c1 c2 c3 d0 d1 d2
  go_wp2
  refine wp_region_after mixed (by kernel_rfl) ?_
  repeat (first | go_big_quiet_step ((exact calls_after (Law09.awake_any _ (H4.out.h.later (After.ok _))))) | quiet_step ((exact calls_after (Law09.awake_any _ (H4.out.h.later (After.ok _))))))
  refine wpQuiet_nil ?_
  intro _ hw'
  obtain ⟨pq, hw''⟩ := hw'
  subst hw''
  go_wp2
  go_ret
  exact ⟨rfl, H4.out.b.trans (pq.ok.mono H4.out.b.size)⟩
set_option maxHeartbeats 4000000 in
theorem walk_high_yes (T S L G i k o l : Int) (hr : rightB T S L G = true) (h0 : 0 ≤ i) (h1 : atI T L (wrap64 (S + 1)) 0 ≤ i) (m : Nat) (hm : whereI T S L G (k, o, l) = (m : Int)) (hq : whatI T S L G (m : Int) = (k, o, l)) (w : World) (hL : Held w) :
    Calls Tryd.prog 4 #[.agg #[.int .i64 T, .int .i64 S, .int .i64 L, .int .u64 G], .int .i64 i, .agg #[.int .i64 k, .int .i64 o, .int .i64 l]] w fun e w' => e = .returned (.bool true) ∧ Below w.heap.size w w' := by
  have HH := Lib.hid (has_new T S L G k o l hL)
  have HR := Lib.hid hr
  have HM := Lib.hid hm
  have HX := Lib.hid (back_high hr h1)
  obtain ⟨n, hn⟩ : ∃ n, atI T L (wrap64 (S + 1)) 0 = n := ⟨_, rfl⟩
  have HN := Lib.hid fun w => words_is (S := S) (G := G) hn w
  rw [hn] at h1
  have HQ := Lib.hid hq
  have m0 : (0 : Int) ≤ (m : Int) := by omega
  have m1 : ¬ (m : Int) = -1 := by omega
  have m2 : ((m : Int) == -1) = false := by simp <;> omega
  clear hr hL hm hn hq
  go_enter Tryd.func4, Tryd.ntmps4
  go_wp2_with fail
  refine (Law09.What_is HX.out _).mono ?_
  rintro e w1 ⟨rfl, h⟩
  have H1 := Lib.hid ((HH.out.later h).later (spot_below w1 (.cells #[.int .i64 0, .int .i64 0, .int .i64 0] 26)))
  have X1 := Lib.hid (Place.SpotAt.new w1 (0, 0, 0))
  clear h
  obtain ⟨c0, c1, c2, c3⟩ := H1.out.p
  go_wp2_with fail
  refine (Plan.Right_yes HR.out _).mono ?_
  rintro e w2 ⟨rfl, h⟩
  have H2 := Lib.hid (H1.out.later h)
  have X2 := Lib.hid (X1.out.kept (grownBy_below h) (by simp))
  clear h c0 c1 c2 c3
  obtain ⟨c0, c1, c2, c3⟩ := H2.out.p
  obtain ⟨⟨x0, x1, x2⟩, _⟩ := X2.out.cells
  dsimp only at x0 x1 x2
  go_wp2_with fail
  refine (HN.out _).mono ?_
  rintro e w3 ⟨rfl, h⟩
  have H3 := Lib.hid (H2.out.later h)
  have X3 := Lib.hid (X2.out.kept (grownBy_below h) (by simp))
  clear h c0 c1 c2 c3
  obtain ⟨c0, c1, c2, c3⟩ := H3.out.p
  clear x0 x1 x2
  obtain ⟨⟨x0, x1, x2⟩, _⟩ := X3.out.cells
  dsimp only at x0 x1 x2
  obtain ⟨⟨d0, d1, d2⟩, _⟩ := H3.out.s.cells
  dsimp only at d0 d1 d2
  go_wp2_with fail
  refine (Law09.Where_is HM.out _).mono ?_
  rintro e w4 ⟨rfl, h⟩
  have H4 := Lib.hid (H3.out.later h)
  clear h c0 c1 c2 c3 d0 d1 d2 x0 x1 x2
  obtain ⟨c0, c1, c2, c3⟩ := H4.out.p
  obtain ⟨⟨d0, d1, d2⟩, _⟩ := H4.out.s.cells
  dsimp only at d0 d1 d2
  have K_c0 := fun p : After w4 => p.cell c0
  have K_c1 := fun p : After w4 => p.cell c1
  have K_c2 := fun p : After w4 => p.cell c2
  have K_c3 := fun p : After w4 => p.cell c3
  have K_d0 := fun p : After w4 => p.cell d0
  have K_d1 := fun p : After w4 => p.cell d1
  have K_d2 := fun p : After w4 => p.cell d2
  clear c0 c1 c2 c3 d0 d1 d2
  go_wp2
  refine wp_region_after mixed (by kernel_rfl) ?_
  repeat (first | go_big_quiet_step ((first | (with_reducible exact calls_after (Law09.What_is HQ.out _)) | exact calls_after (Law09.awake_any _ (H4.out.h.later (After.ok _))))) | quiet_step ((first | (with_reducible exact calls_after (Law09.What_is HQ.out _)) | exact calls_after (Law09.awake_any _ (H4.out.h.later (After.ok _))))))
  refine wpQuiet_nil ?_
  intro _ hw'
  obtain ⟨pq, hw''⟩ := hw'
  subst hw''
  go_wp2
  go_ret
  exact ⟨rfl, H4.out.b.trans (pq.ok.mono H4.out.b.size)⟩
theorem walk_one (T S L G i k o l : Int) (w : World) (hL : Held w) :
    Calls Tryd.prog 4 #[.agg #[.int .i64 T, .int .i64 S, .int .i64 L, .int .u64 G], .int .i64 i, .agg #[.int .i64 k, .int .i64 o, .int .i64 l]] w fun e w' => e = .returned (.bool true) ∧ Below w.heap.size w w' := by
  rcases back_where T S L G (k, o, l) with hm | ⟨m, hm, hq⟩
  · cases hr : rightB T S L G
    · exact walk_wrong_no T S L G i k o l hr hm w hL
    · by_cases h0 : 0 ≤ i
      · by_cases h1 : i < atI T L (wrap64 (S + 1)) 0
        · obtain ⟨a, b, c, hx, ha, hw⟩ := back_there hr h0 h1
          exact walk_there_no T S L G i k o l a b c hr h0 h1 hx ha hw hm w hL
        · exact walk_high_no T S L G i k o l hr h0 (by omega) hm w hL
      · exact walk_low_no T S L G i k o l hr (by omega) hm w hL
  · cases hr : rightB T S L G
    · exact walk_wrong_yes T S L G i k o l hr m hm hq w hL
    · by_cases h0 : 0 ≤ i
      · by_cases h1 : i < atI T L (wrap64 (S + 1)) 0
        · obtain ⟨a, b, c, hx, ha, hw⟩ := back_there hr h0 h1
          exact walk_there_yes T S L G i k o l a b c hr h0 h1 hx ha hw m hm hq w hL
        · exact walk_high_yes T S L G i k o l hr h0 (by omega) m hm hq w hL
      · exact walk_low_yes T S L G i k o l hr (by omega) m hm hq w hL
theorem walk (x0 : Int × Int × Int × Int) (i : Int) (x2 : Int × Int × Int) (_ : (Lit.int .i64 x0.1).wf = true) (_ : (Lit.int .i64 x0.2.1).wf = true) (_ : (Lit.int .i64 x0.2.2.1).wf = true) (_ : (Lit.int .u64 x0.2.2.2).wf = true) (_ : (Lit.int .i64 i).wf = true) (_ : (Lit.int .i64 x2.1).wf = true) (wo : (Lit.int .i64 x2.2.1).wf = true) (wl : (Lit.int .i64 x2.2.2).wf = true) (w : World) (hL : Held w) :
    Calls Tryd.prog 4 #[.agg #[.int .i64 x0.1, .int .i64 x0.2.1, .int .i64 x0.2.2.1, .int .u64 x0.2.2.2], .int .i64 i, .agg #[.int .i64 x2.1, .int .i64 x2.2.1, .int .i64 x2.2.2]] w fun e w' => e = .returned (.bool true) ∧ Below w.heap.size w w' :=
  walk_one _ _ _ _ i _ _ _ w hL

theorem laidOut : laidOutB Tryd.prog = true := by kernel_rfl
theorem own : ownKnob Tryd.prog.godebug = none := by kernel_rfl
theorem door_met (os : Os) (args : Array Value) : laidMetH Tryd.prog Rows.placeBackRow.laid ((World.doorLaid Tryd.prog 400 os).forCall (fun _ _ => 0) ⟨#[], args, []⟩).memory :=
  laidMetH_of_parts3 (fuel := 8) (laidMet_of_run' 8 (by kernel_rfl) (by kernel_rfl)) (by kernel_rfl) (by kernel_rfl)
set_option maxRecDepth 100000 in
theorem lifted (os : Os) (started : os.Started) (H : Type) (enc : TypeId × Value → H) :
    ReturnsInHanded {} Tryd.checked os 4 .any (fun w args => (Rows.placeBackSpec.pre enc Tryd.prog Tryd.f4 [] false w args ∧ laidMetH Tryd.prog Rows.placeBackRow.laid w) ∧ sizedMet enc Tryd.prog Tryd.f4 (OpenSpec.ofChange Rows.placeBackSpec) false w args) (Rows.placeBackSpec.post enc Tryd.prog Tryd.f4 false true false false) := by
  refine Frame.liftedLaid (C := Tryd.checked) (fn := Tryd.f4) (tb := 4) own started (by kernel_rfl) Tryd.func4
    (ChangeSpec.witness_shaped (enc := enc) (C := Tryd.checked) (os := os) (X := fun w _ => laidMetH Tryd.prog Rows.placeBackRow.laid w) false (World.doorLaid Tryd.prog 400 os) #[.agg #[.int .i64 0, .int .i64 0, .int .i64 0, .int .u64 0], .int .i64 0, .agg #[.int .i64 0, .int .i64 0, .int .i64 0]] 8 rfl (World.shaped_of_RefB (by kernel_rfl) (by kernel_rfl)) (by kernel_rfl) (by kernel_rfl) (by kernel_rfl) (door_met os _))
    rfl rfl Tryd.underlying4 laidOut (by kernel_rfl) (fun ds h => by match ds, h with | [_, _, _], _ => rfl) ?_
  intro W base args ds ps hval0 hA0 hlt hL
  have hval : ∀ (j : Nat) t v, Tryd.f4.params[j]? = some t → args[j]? = some v → Value.okWide Tryd.prog W .any base t v := hval0
  have hA : DataW.TrodAll enc Tryd.prog W 0 (fun _ => true) true Tryd.f4.params.toList args.toList ds ps := hA0
  rw [Tryd.params4] at hA hval
  obtain ⟨v0, vs0, d0, ds0, p0, q0, hargs, rfl, rfl, h0, r0⟩ := trodAll_cons hA
  obtain ⟨v1, vs1, d1, ds1, p1, q1, rfl, rfl, rfl, h1, r1⟩ := trodAll_cons r0
  obtain ⟨v2, vs2, d2, ds2, p2, q2, rfl, rfl, rfl, h2, r2⟩ := trodAll_cons r1
  obtain ⟨rfl, rfl, rfl⟩ := trodAll_nil r2
  obtain rfl : args = #[v0, v1, v2] := by cases args; simp_all
  obtain ⟨x0, rfl, w0_0, w0_1, w0_2, w0_3⟩ := Open.open_four_ints Tryd.underlying24 (by kernel_rfl) (by kernel_rfl) Tryd.underlying3 Tryd.underlying3 Tryd.underlying3 Tryd.underlying22 (hval 0 24 v0 rfl rfl) h0
  obtain ⟨a1, rfl, _, _, w1⟩ := open_int Tryd.underlying3 (hval 1 3 v1 rfl rfl) h1
  obtain ⟨x2, rfl, w2_0, w2_1, w2_2⟩ := Open.open_three_ints Tryd.underlying26 (by kernel_rfl) (by kernel_rfl) Tryd.underlying3 Tryd.underlying3 Tryd.underlying3 (hval 2 26 v2 rfl rfl) h2
  refine (walk x0 a1 x2 w0_0 w0_1 w0_2 w0_3 w1 w2_0 w2_1 w2_2 W (held hL)).mono fun e W' h => ?_
  exact h

theorem over : Rows.placeBackRow.holds Tryd.pinned (OpenSpec.ofChange Rows.placeBackSpec) :=
  OpenClaim.holds_of_wide 4 Tryd.f4 rfl rfl rfl rfl rfl rfl rfl ⟨rfl, rfl, rfl, rfl, rfl⟩ rfl rfl rfl rfl rfl (by kernel_rfl) Tryd.func4 (by kernel_rfl)
    (of_decide_eq_true (by kernel_rfl)) (by unfold Func.isWrapper; first | (rw [if_pos (by decide +kernel)]; kernel_rfl) | (rw [if_neg (by decide +kernel)]; exact ⟨rfl, rfl⟩))
    (fun os started H enc _ => lifted os started H enc)

theorem proved : Rows.PlaceBackCardSaid :=
  Claim7.holds_tied_plain_at .later [] Rows.placeBackCard.laidKinds true Rows.placeBackCard.stood.harness Rows.placeBackCard.stood.looks
    over (fun _ h => by cases h) (by kernel_rfl) (fun _ h => by cases h) placeBack_row_tie rfl ⟨rfl, rfl⟩ (by kernel_rfl) rfl
    (fun f fn hf hfn => by
      obtain rfl : f = 4 := Option.some.inj ((show Tryd.prog.funcNamed Rows.placeBackRow.func = some 4 by kernel_rfl).symm.trans hf) |>.symm
      obtain rfl : fn = Tryd.f4 := (Option.some.inj (Tryd.func4.symm.trans hfn)).symm
      exact ⟨by kernel_rfl, fun j t ht => by
        rw [Tryd.params4] at ht
        have hm : t ∈ [24, 3, 26] := by simpa using Array.mem_of_getElem? ht
        have hall : ([24, 3, 26].all fun u => !Tryd.prog.wantsStandIn u) = true := by kernel_rfl
        exact (show Tryd.prog.wantsStandIn t = false by simpa using List.all_eq_true.1 hall t hm)⟩)
    (by kernel_rfl)
#print axioms proved
end Go.Proofs.YtjmkbcdolkgcgaaDoor.PlaceBack

/- PlaceWords: for every plan p and all numbers of and level: where p is right, of is one of its slots and level one of its levels, the words of the slot, of the head and of the thread that is one less stand where the plan has them, and their spots say so; and no word stands at -1; and the chapter's examples come out; the arguments read as they did. Conditions: the program's table of names and the library's listed tables hold what their own texts lay in them (tied by the card). -/
import Derived.Test.YtjmkbcdolkgcgaaDoorPlaceAwake
import Derived.Test.YtjmkbcdolkgcgaaDoorFour
import Derived.Test.YtjmkbcdolkgcgaaDoorThree
import Derived.Test.YtjmkbcdolkgcgaaDoorFrame
import Derived.Test.YtjmkbcdolkgcgaaDoorCards
namespace Go.Proofs.YtjmkbcdolkgcgaaDoor.PlaceWords
open Go.ChangeShapes Go.WideShapes Go.ChangeAt Go.RowKit PM Lay Str Fmt Num PlaceText
open Go.Proofs.YtjmkbcdolkgcgaaDoor.Place (spotV)
open Go.Proofs.YtjmkbcdolkgcgaaDoor.Law09 (Held)
set_option linter.unusedVariables false

theorem held {W : World} (h : laidMetH Tryd.prog Rows.placeWordsRow.laid W) : Held W :=
  Law09.held_of h (by kernel_rfl) (List.mem_of_getElem? (i := 3) rfl) (List.mem_of_getElem? (i := 2) rfl)

theorem IntKind_wrap (x : Int) : IntKind.i64.wrap x = wrap64 x := IntWalk.i64_left x
theorem mixed : Tryd.prog.follows .mixedOrders = true := by kernel_rfl
theorem State_is {T S L G i n : Int} (h : atI T L i 0 = n) (w : World) : Calls Tryd.prog 15 #[.agg #[.int .i64 T, .int .i64 S, .int .i64 L, .int .u64 G], .int .i64 i] w fun e w' => e = .returned (.int .i64 n) ∧ Below w.heap.size w w' := by
  rw [← h]
  exact Plan.State_any T S L G i w
theorem Hold_is {T S L G i n : Int} (h : atI T L i 4 = n) (w : World) : Calls Tryd.prog 16 #[.agg #[.int .i64 T, .int .i64 S, .int .i64 L, .int .u64 G], .int .i64 i] w fun e w' => e = .returned (.int .i64 n) ∧ Below w.heap.size w w' := by
  rw [← h]
  exact Plan.Hold_any T S L G i w
theorem Succ_is {T S L G i n : Int} (h : atI T L i 5 = n) (w : World) : Calls Tryd.prog 19 #[.agg #[.int .i64 T, .int .i64 S, .int .i64 L, .int .u64 G], .int .i64 i] w fun e w' => e = .returned (.int .i64 n) ∧ Below w.heap.size w w' := by
  rw [← h]
  exact Plan.Succ_any T S L G i w
theorem Next_is {T S L G i k n : Int} (h : nextI T L i k = n) (w : World) : Calls Tryd.prog 17 #[.agg #[.int .i64 T, .int .i64 S, .int .i64 L, .int .u64 G], .int .i64 i, .int .i64 k] w fun e w' => e = .returned (.int .i64 n) ∧ Below w.heap.size w w' := by
  rw [← h]
  exact Plan.Next_any T S L G i k w
theorem Sem_is {T S L G i n : Int} (h : ofI T 2 i = n) (w : World) : Calls Tryd.prog 18 #[.agg #[.int .i64 T, .int .i64 S, .int .i64 L, .int .u64 G], .int .i64 i] w fun e w' => e = .returned (.int .i64 n) ∧ Below w.heap.size w w' := by
  rw [← h]
  exact Plan.Sem_any T S L G i w

set_option maxHeartbeats 4000000 in
theorem walk_wrong (T S L G i k : Int) (hr : rightB T S L G = false) (w : World) (hL : Held w) :
    Calls Tryd.prog 5 #[.agg #[.int .i64 T, .int .i64 S, .int .i64 L, .int .u64 G], .int .i64 i, .int .i64 k] w fun e w' => e = .returned (.bool true) ∧ Below w.heap.size w w' := by
  have HP := Lib.hid (Place.planAt_new T S L G w)
  have HL := Lib.hid (hL.later (spot_below w (.cells #[.int .i64 T, .int .i64 S, .int .i64 L, .int .u64 G] 24)))
  have HB := Lib.hid (spot_below w (.cells #[.int .i64 T, .int .i64 S, .int .i64 L, .int .u64 G] 24))
  have HR := Lib.hid hr
  have HX := Lib.hid (what_none (T := T) (S := S) (L := L) (G := G))
  clear hr hL
  obtain ⟨c0, c1, c2, c3⟩ := HP.out
  go_enter Tryd.func5, Tryd.ntmps5
  go_wp2_with fail
  refine (Plan.Right_no HR.out _).mono ?_
  rintro e w1 ⟨rfl, h⟩
  have P1 := Lib.hid (HP.out.below h)
  have B1 := Lib.hid (HB.out.trans (h.mono HB.out.size))
  have L1 := Lib.hid (HL.out.later h)
  clear h c0 c1 c2 c3
  obtain ⟨c0, c1, c2, c3⟩ := P1.out
  go_wp2_with fail
  refine (Law09.What_is HX.out _).mono ?_
  rintro e w2 ⟨rfl, h⟩
  have B2 := Lib.hid (B1.out.trans (h.mono B1.out.size))
  have L2 := Lib.hid (L1.out.later h)
  clear h c0 c1 c2 c3
  go_wp2_with fail
  refine (Law09.awake_any _ L2.out).mono ?_
  rintro e w3 ⟨rfl, h⟩
  go_wp2
  go_ret
  exact ⟨rfl, B2.out.trans (h.mono B2.out.size)⟩
set_option maxHeartbeats 4000000 in
theorem walk_under (T S L G i k : Int) (hr : rightB T S L G = true) (h1 : i < 1) (w : World) (hL : Held w) :
    Calls Tryd.prog 5 #[.agg #[.int .i64 T, .int .i64 S, .int .i64 L, .int .u64 G], .int .i64 i, .int .i64 k] w fun e w' => e = .returned (.bool true) ∧ Below w.heap.size w w' := by
  have HP := Lib.hid (Place.planAt_new T S L G w)
  have HL := Lib.hid (hL.later (spot_below w (.cells #[.int .i64 T, .int .i64 S, .int .i64 L, .int .u64 G] 24)))
  have HB := Lib.hid (spot_below w (.cells #[.int .i64 T, .int .i64 S, .int .i64 L, .int .u64 G] 24))
  have HR := Lib.hid hr
  have HX := Lib.hid (what_none (T := T) (S := S) (L := L) (G := G))
  clear hr hL
  obtain ⟨c0, c1, c2, c3⟩ := HP.out
  go_enter Tryd.func5, Tryd.ntmps5
  go_wp2_with fail
  refine (Plan.Right_yes HR.out _).mono ?_
  rintro e w1 ⟨rfl, h⟩
  have P1 := Lib.hid (HP.out.below h)
  have B1 := Lib.hid (HB.out.trans (h.mono HB.out.size))
  have L1 := Lib.hid (HL.out.later h)
  clear h c0 c1 c2 c3
  obtain ⟨c0, c1, c2, c3⟩ := P1.out
  go_wp2_with fail
  refine (Law09.What_is HX.out _).mono ?_
  rintro e w2 ⟨rfl, h⟩
  have B2 := Lib.hid (B1.out.trans (h.mono B1.out.size))
  have L2 := Lib.hid (L1.out.later h)
  clear h c0 c1 c2 c3
  go_wp2_with fail
  refine (Law09.awake_any _ L2.out).mono ?_
  rintro e w3 ⟨rfl, h⟩
  go_wp2
  go_ret
  exact ⟨rfl, B2.out.trans (h.mono B2.out.size)⟩
set_option maxHeartbeats 4000000 in
theorem walk_over (T S L G i k : Int) (hr : rightB T S L G = true) (h1 : 1 ≤ i) (h2 : S < i) (w : World) (hL : Held w) :
    Calls Tryd.prog 5 #[.agg #[.int .i64 T, .int .i64 S, .int .i64 L, .int .u64 G], .int .i64 i, .int .i64 k] w fun e w' => e = .returned (.bool true) ∧ Below w.heap.size w w' := by
  have HP := Lib.hid (Place.planAt_new T S L G w)
  have HL := Lib.hid (hL.later (spot_below w (.cells #[.int .i64 T, .int .i64 S, .int .i64 L, .int .u64 G] 24)))
  have HB := Lib.hid (spot_below w (.cells #[.int .i64 T, .int .i64 S, .int .i64 L, .int .u64 G] 24))
  have HR := Lib.hid hr
  have HX := Lib.hid (what_none (T := T) (S := S) (L := L) (G := G))
  clear hr hL
  obtain ⟨c0, c1, c2, c3⟩ := HP.out
  go_enter Tryd.func5, Tryd.ntmps5
  go_wp2_with fail
  refine (Plan.Right_yes HR.out _).mono ?_
  rintro e w1 ⟨rfl, h⟩
  have P1 := Lib.hid (HP.out.below h)
  have B1 := Lib.hid (HB.out.trans (h.mono HB.out.size))
  have L1 := Lib.hid (HL.out.later h)
  clear h c0 c1 c2 c3
  obtain ⟨c0, c1, c2, c3⟩ := P1.out
  go_wp2_with fail
  refine (Law09.What_is HX.out _).mono ?_
  rintro e w2 ⟨rfl, h⟩
  have B2 := Lib.hid (B1.out.trans (h.mono B1.out.size))
  have L2 := Lib.hid (L1.out.later h)
  clear h c0 c1 c2 c3
  go_wp2_with fail
  refine (Law09.awake_any _ L2.out).mono ?_
  rintro e w3 ⟨rfl, h⟩
  go_wp2
  go_ret
  exact ⟨rfl, B2.out.trans (h.mono B2.out.size)⟩
set_option maxHeartbeats 4000000 in
theorem walk_low (T S L G i k : Int) (hr : rightB T S L G = true) (h1 : 1 ≤ i) (h2 : i ≤ S) (h3 : k < 0) (w : World) (hL : Held w) :
    Calls Tryd.prog 5 #[.agg #[.int .i64 T, .int .i64 S, .int .i64 L, .int .u64 G], .int .i64 i, .int .i64 k] w fun e w' => e = .returned (.bool true) ∧ Below w.heap.size w w' := by
  have HP := Lib.hid (Place.planAt_new T S L G w)
  have HL := Lib.hid (hL.later (spot_below w (.cells #[.int .i64 T, .int .i64 S, .int .i64 L, .int .u64 G] 24)))
  have HB := Lib.hid (spot_below w (.cells #[.int .i64 T, .int .i64 S, .int .i64 L, .int .u64 G] 24))
  have HR := Lib.hid hr
  have HX := Lib.hid (what_none (T := T) (S := S) (L := L) (G := G))
  clear hr hL
  obtain ⟨c0, c1, c2, c3⟩ := HP.out
  go_enter Tryd.func5, Tryd.ntmps5
  go_wp2_with fail
  refine (Plan.Right_yes HR.out _).mono ?_
  rintro e w1 ⟨rfl, h⟩
  have P1 := Lib.hid (HP.out.below h)
  have B1 := Lib.hid (HB.out.trans (h.mono HB.out.size))
  have L1 := Lib.hid (HL.out.later h)
  clear h c0 c1 c2 c3
  obtain ⟨c0, c1, c2, c3⟩ := P1.out
  go_wp2_with fail
  refine (Law09.What_is HX.out _).mono ?_
  rintro e w2 ⟨rfl, h⟩
  have B2 := Lib.hid (B1.out.trans (h.mono B1.out.size))
  have L2 := Lib.hid (L1.out.later h)
  clear h c0 c1 c2 c3
  go_wp2_with fail
  refine (Law09.awake_any _ L2.out).mono ?_
  rintro e w3 ⟨rfl, h⟩
  go_wp2
  go_ret
  exact ⟨rfl, B2.out.trans (h.mono B2.out.size)⟩
set_option maxHeartbeats 4000000 in
theorem walk_high (T S L G i k : Int) (hr : rightB T S L G = true) (h1 : 1 ≤ i) (h2 : i ≤ S) (h3 : 0 ≤ k) (h4 : L ≤ k) (w : World) (hL : Held w) :
    Calls Tryd.prog 5 #[.agg #[.int .i64 T, .int .i64 S, .int .i64 L, .int .u64 G], .int .i64 i, .int .i64 k] w fun e w' => e = .returned (.bool true) ∧ Below w.heap.size w w' := by
  have HP := Lib.hid (Place.planAt_new T S L G w)
  have HL := Lib.hid (hL.later (spot_below w (.cells #[.int .i64 T, .int .i64 S, .int .i64 L, .int .u64 G] 24)))
  have HB := Lib.hid (spot_below w (.cells #[.int .i64 T, .int .i64 S, .int .i64 L, .int .u64 G] 24))
  have HR := Lib.hid hr
  have HX := Lib.hid (what_none (T := T) (S := S) (L := L) (G := G))
  clear hr hL
  obtain ⟨c0, c1, c2, c3⟩ := HP.out
  go_enter Tryd.func5, Tryd.ntmps5
  go_wp2_with fail
  refine (Plan.Right_yes HR.out _).mono ?_
  rintro e w1 ⟨rfl, h⟩
  have P1 := Lib.hid (HP.out.below h)
  have B1 := Lib.hid (HB.out.trans (h.mono HB.out.size))
  have L1 := Lib.hid (HL.out.later h)
  clear h c0 c1 c2 c3
  obtain ⟨c0, c1, c2, c3⟩ := P1.out
  go_wp2_with fail
  refine (Law09.What_is HX.out _).mono ?_
  rintro e w2 ⟨rfl, h⟩
  have B2 := Lib.hid (B1.out.trans (h.mono B1.out.size))
  have L2 := Lib.hid (L1.out.later h)
  clear h c0 c1 c2 c3
  go_wp2_with fail
  refine (Law09.awake_any _ L2.out).mono ?_
  rintro e w3 ⟨rfl, h⟩
  go_wp2
  go_ret
  exact ⟨rfl, B2.out.trans (h.mono B2.out.size)⟩
set_option maxHeartbeats 4000000 in
theorem walk_more (T S L G i k : Int) (hr : rightB T S L G = true) (h1 : 1 ≤ i) (h2 : i ≤ S) (h3 : 0 ≤ k) (h4 : k < L) (h5 : T < i) (w : World) (hL : Held w) :
    Calls Tryd.prog 5 #[.agg #[.int .i64 T, .int .i64 S, .int .i64 L, .int .u64 G], .int .i64 i, .int .i64 k] w fun e w' => e = .returned (.bool true) ∧ Below w.heap.size w w' := by
  have HP := Lib.hid (Place.planAt_new T S L G w)
  have HL := Lib.hid (hL.later (spot_below w (.cells #[.int .i64 T, .int .i64 S, .int .i64 L, .int .u64 G] 24)))
  have HB := Lib.hid (spot_below w (.cells #[.int .i64 T, .int .i64 S, .int .i64 L, .int .u64 G] 24))
  have HR := Lib.hid hr
  have hi64 : i ≤ 64 := by have := (right_is hr).2.2.2.1; omega
  have e0 : whatI T S L G (atI T L i 0) = (9, i, 0) := what_six hr h1 h2 0 (by decide)
  have e4 : whatI T S L G (atI T L i 4) = (13, i, 0) := what_six hr h1 h2 4 (by decide)
  have e5 : whereI T S L G (14, i, 0) = atI T L i 5 := where_six hr h1 h2 5 (by decide)
  have en : whatI T S L G (nextI T L i k) = (15, i, k) := what_next hr h1 h2 h3 h4
  have eh : whatI T S L G (nextI T L 0 k) = (8, 0, k) := what_head hr h3 h4
  obtain ⟨p0, q0⟩ : ∃ x, atI T L i 0 = x := ⟨_, rfl⟩
  obtain ⟨p4, q4⟩ : ∃ x, atI T L i 4 = x := ⟨_, rfl⟩
  obtain ⟨p5, q5⟩ : ∃ x, atI T L i 5 = x := ⟨_, rfl⟩
  obtain ⟨pn, qn⟩ : ∃ x, nextI T L i k = x := ⟨_, rfl⟩
  obtain ⟨ph, qh⟩ : ∃ x, nextI T L 0 k = x := ⟨_, rfl⟩
  rw [q0] at e0
  rw [q4] at e4
  rw [q5] at e5
  rw [qn] at en
  rw [qh] at eh
  have Q0 := Lib.hid fun w => State_is (S := S) (G := G) q0 w
  have Q4 := Lib.hid fun w => Hold_is (S := S) (G := G) q4 w
  have Q5 := Lib.hid fun w => Succ_is (S := S) (G := G) q5 w
  have QN := Lib.hid fun w => Next_is (S := S) (G := G) qn w
  have QH := Lib.hid fun w => Next_is (S := S) (G := G) qh w
  have E0 := Lib.hid fun w => Law09.What_is e0 w
  have E4 := Lib.hid fun w => Law09.What_is e4 w
  have EN := Lib.hid fun w => Law09.What_is en w
  have EH := Lib.hid fun w => Law09.What_is eh w
  have E5 := Lib.hid fun w => Law09.Where_is e5 w
  clear hr hL e0 e4 e5 en eh q0 q4 q5 qn qh
  obtain ⟨c0, c1, c2, c3⟩ := HP.out
  go_enter Tryd.func5, Tryd.ntmps5
  go_wp2_with fail
  refine (Plan.Right_yes HR.out _).mono ?_
  rintro e w1 ⟨rfl, h⟩
  have P1 := Lib.hid (HP.out.below h)
  have B1 := Lib.hid (HB.out.trans (h.mono HB.out.size))
  have L1 := Lib.hid (HL.out.later h)
  clear h c0 c1 c2 c3
  obtain ⟨c0, c1, c2, c3⟩ := P1.out
  have K_c0 := fun p : After w1 => p.cell c0
  have K_c1 := fun p : After w1 => p.cell c1
  have K_c2 := fun p : After w1 => p.cell c2
  have K_c3 := fun p : After w1 => p.cell c3
  go_wp2
  refine wp_region_after mixed (by kernel_rfl) ?_
  repeat (first | go_big_quiet_step ((first | (with_reducible exact calls_after (Q0.out _)) | (with_reducible exact calls_after (Q4.out _)) | (with_reducible exact calls_after (QN.out _)) | (with_reducible exact calls_after (QH.out _)) | (with_reducible exact calls_after (E0.out _)) | (with_reducible exact calls_after (E4.out _)) | (with_reducible exact calls_after (EN.out _)) | (with_reducible exact calls_after (EH.out _)))) | quiet_step ((first | (with_reducible exact calls_after (Q0.out _)) | (with_reducible exact calls_after (Q4.out _)) | (with_reducible exact calls_after (QN.out _)) | (with_reducible exact calls_after (QH.out _)) | (with_reducible exact calls_after (E0.out _)) | (with_reducible exact calls_after (E4.out _)) | (with_reducible exact calls_after (EN.out _)) | (with_reducible exact calls_after (EH.out _)))))
  refine wpQuiet_nil ?_
  intro _ hw'
  obtain ⟨pq, hw''⟩ := hw'
  subst hw''
  have P2 := Lib.hid (P1.out.below pq.ok)
  have B2 := Lib.hid (B1.out.trans (pq.ok.mono B1.out.size))
  have L2 := Lib.hid (L1.out.later pq.ok)
  generalize pq.x = w2 at P2 B2 L2 ⊢
  clear c0 c1 c2 c3 K_c0 K_c1 K_c2 K_c3
  obtain ⟨c0, c1, c2, c3⟩ := P2.out
  have K_c0 := fun p : After w2 => p.cell c0
  have K_c1 := fun p : After w2 => p.cell c1
  have K_c2 := fun p : After w2 => p.cell c2
  have K_c3 := fun p : After w2 => p.cell c3
  go_wp2
  refine wp_region_after mixed (by kernel_rfl) ?_
  repeat (first | go_big_quiet_step ((first | (with_reducible exact calls_after (Q5.out _)) | (with_reducible exact calls_after (E5.out _)) | exact calls_after (Law09.awake_any _ (L2.out.later (After.ok _))))) | quiet_step ((first | (with_reducible exact calls_after (Q5.out _)) | (with_reducible exact calls_after (E5.out _)) | exact calls_after (Law09.awake_any _ (L2.out.later (After.ok _))))))
  refine wpQuiet_nil ?_
  intro _ hw'
  obtain ⟨pq, hw''⟩ := hw'
  subst hw''
  go_wp2
  go_ret
  exact ⟨rfl, B2.out.trans (pq.ok.mono B2.out.size)⟩
set_option maxHeartbeats 4000000 in
theorem walk_thread (T S L G i k : Int) (hr : rightB T S L G = true) (h1 : 1 ≤ i) (h2 : i ≤ S) (h3 : 0 ≤ k) (h4 : k < L) (h5 : i ≤ T) (w : World) (hL : Held w) :
    Calls Tryd.prog 5 #[.agg #[.int .i64 T, .int .i64 S, .int .i64 L, .int .u64 G], .int .i64 i, .int .i64 k] w fun e w' => e = .returned (.bool true) ∧ Below w.heap.size w w' := by
  have HP := Lib.hid (Place.planAt_new T S L G w)
  have HL := Lib.hid (hL.later (spot_below w (.cells #[.int .i64 T, .int .i64 S, .int .i64 L, .int .u64 G] 24)))
  have HB := Lib.hid (spot_below w (.cells #[.int .i64 T, .int .i64 S, .int .i64 L, .int .u64 G] 24))
  have HR := Lib.hid hr
  have hi64 : i ≤ 64 := by have := (right_is hr).2.2.2.1; omega
  have e0 : whatI T S L G (atI T L i 0) = (9, i, 0) := what_six hr h1 h2 0 (by decide)
  have e4 : whatI T S L G (atI T L i 4) = (13, i, 0) := what_six hr h1 h2 4 (by decide)
  have e5 : whereI T S L G (14, i, 0) = atI T L i 5 := where_six hr h1 h2 5 (by decide)
  have en : whatI T S L G (nextI T L i k) = (15, i, k) := what_next hr h1 h2 h3 h4
  have eh : whatI T S L G (nextI T L 0 k) = (8, 0, k) := what_head hr h3 h4
  have ej : IntKind.i64.wrap (i - 1) = i - 1 := (IntKind_wrap (i - 1)).trans (wrap_in (by omega))
  have d5 : decide (T < i) = false := decide_eq_false (by omega)
  have et : whatI T S L G (ofI T 2 (i - 1)) = (7, i - 1, 0) := what_sem hr (by omega) (by omega)
  obtain ⟨p0, q0⟩ : ∃ x, atI T L i 0 = x := ⟨_, rfl⟩
  obtain ⟨p4, q4⟩ : ∃ x, atI T L i 4 = x := ⟨_, rfl⟩
  obtain ⟨p5, q5⟩ : ∃ x, atI T L i 5 = x := ⟨_, rfl⟩
  obtain ⟨pn, qn⟩ : ∃ x, nextI T L i k = x := ⟨_, rfl⟩
  obtain ⟨ph, qh⟩ : ∃ x, nextI T L 0 k = x := ⟨_, rfl⟩
  rw [q0] at e0
  rw [q4] at e4
  rw [q5] at e5
  rw [qn] at en
  rw [qh] at eh
  obtain ⟨pt, qt⟩ : ∃ x, ofI T 2 (i - 1) = x := ⟨_, rfl⟩
  rw [qt] at et
  have Q6 := Lib.hid fun w => Sem_is (S := S) (L := L) (G := G) qt w
  have E6 := Lib.hid fun w => Law09.What_is et w
  have Q0 := Lib.hid fun w => State_is (S := S) (G := G) q0 w
  have Q4 := Lib.hid fun w => Hold_is (S := S) (G := G) q4 w
  have Q5 := Lib.hid fun w => Succ_is (S := S) (G := G) q5 w
  have QN := Lib.hid fun w => Next_is (S := S) (G := G) qn w
  have QH := Lib.hid fun w => Next_is (S := S) (G := G) qh w
  have E0 := Lib.hid fun w => Law09.What_is e0 w
  have E4 := Lib.hid fun w => Law09.What_is e4 w
  have EN := Lib.hid fun w => Law09.What_is en w
  have EH := Lib.hid fun w => Law09.What_is eh w
  have E5 := Lib.hid fun w => Law09.Where_is e5 w
  clear hr hL e0 e4 e5 en eh q0 q4 q5 qn qh et qt
  obtain ⟨c0, c1, c2, c3⟩ := HP.out
  go_enter Tryd.func5, Tryd.ntmps5
  go_wp2_with fail
  refine (Plan.Right_yes HR.out _).mono ?_
  rintro e w1 ⟨rfl, h⟩
  have P1 := Lib.hid (HP.out.below h)
  have B1 := Lib.hid (HB.out.trans (h.mono HB.out.size))
  have L1 := Lib.hid (HL.out.later h)
  clear h c0 c1 c2 c3
  obtain ⟨c0, c1, c2, c3⟩ := P1.out
  have K_c0 := fun p : After w1 => p.cell c0
  have K_c1 := fun p : After w1 => p.cell c1
  have K_c2 := fun p : After w1 => p.cell c2
  have K_c3 := fun p : After w1 => p.cell c3
  go_wp2
  refine wp_region_after mixed (by kernel_rfl) ?_
  repeat (first | go_big_quiet_step ((first | (with_reducible exact calls_after (Q0.out _)) | (with_reducible exact calls_after (Q4.out _)) | (with_reducible exact calls_after (QN.out _)) | (with_reducible exact calls_after (QH.out _)) | (with_reducible exact calls_after (E0.out _)) | (with_reducible exact calls_after (E4.out _)) | (with_reducible exact calls_after (EN.out _)) | (with_reducible exact calls_after (EH.out _)))) | quiet_step ((first | (with_reducible exact calls_after (Q0.out _)) | (with_reducible exact calls_after (Q4.out _)) | (with_reducible exact calls_after (QN.out _)) | (with_reducible exact calls_after (QH.out _)) | (with_reducible exact calls_after (E0.out _)) | (with_reducible exact calls_after (E4.out _)) | (with_reducible exact calls_after (EN.out _)) | (with_reducible exact calls_after (EH.out _)))))
  refine wpQuiet_nil ?_
  intro _ hw'
  obtain ⟨pq, hw''⟩ := hw'
  subst hw''
  have P2 := Lib.hid (P1.out.below pq.ok)
  have B2 := Lib.hid (B1.out.trans (pq.ok.mono B1.out.size))
  have L2 := Lib.hid (L1.out.later pq.ok)
  generalize pq.x = w2 at P2 B2 L2 ⊢
  clear c0 c1 c2 c3 K_c0 K_c1 K_c2 K_c3
  obtain ⟨c0, c1, c2, c3⟩ := P2.out
  have K_c0 := fun p : After w2 => p.cell c0
  have K_c1 := fun p : After w2 => p.cell c1
  have K_c2 := fun p : After w2 => p.cell c2
  have K_c3 := fun p : After w2 => p.cell c3
  go_wp2
  refine wp_region_after mixed (by kernel_rfl) ?_
  repeat (first | go_big_quiet_step ((first | (with_reducible exact calls_after (Q6.out _)) | (with_reducible exact calls_after (E6.out _)) | (with_reducible exact calls_after (Q5.out _)) | (with_reducible exact calls_after (E5.out _)) | exact calls_after (Law09.awake_any _ (L2.out.later (After.ok _))))) | quiet_step ((first | (with_reducible exact calls_after (Q6.out _)) | (with_reducible exact calls_after (E6.out _)) | (with_reducible exact calls_after (Q5.out _)) | (with_reducible exact calls_after (E5.out _)) | exact calls_after (Law09.awake_any _ (L2.out.later (After.ok _))))))
  refine wpQuiet_nil ?_
  intro _ hw'
  obtain ⟨pq, hw''⟩ := hw'
  subst hw''
  go_wp2
  go_ret
  exact ⟨rfl, B2.out.trans (pq.ok.mono B2.out.size)⟩
theorem walk (x0 : Int × Int × Int × Int) (i k : Int) (_ : (Lit.int .i64 x0.1).wf = true) (_ : (Lit.int .i64 x0.2.1).wf = true) (_ : (Lit.int .i64 x0.2.2.1).wf = true) (_ : (Lit.int .u64 x0.2.2.2).wf = true) (_ : (Lit.int .i64 i).wf = true) (_ : (Lit.int .i64 k).wf = true) (w : World) (hL : Held w) :
    Calls Tryd.prog 5 #[.agg #[.int .i64 x0.1, .int .i64 x0.2.1, .int .i64 x0.2.2.1, .int .u64 x0.2.2.2], .int .i64 i, .int .i64 k] w fun e w' => e = .returned (.bool true) ∧ Below w.heap.size w w' := by
  obtain ⟨T, S, L, G⟩ := x0
  cases hr : rightB T S L G
  · exact walk_wrong T S L G i k hr w hL
  · by_cases h1 : 1 ≤ i
    · by_cases h2 : i ≤ S
      · by_cases h3 : 0 ≤ k
        · by_cases h4 : k < L
          · by_cases h5 : i ≤ T
            · exact walk_thread T S L G i k hr h1 h2 h3 h4 h5 w hL
            · exact walk_more T S L G i k hr h1 h2 h3 h4 (by omega) w hL
          · exact walk_high T S L G i k hr h1 h2 h3 (by omega) w hL
        · exact walk_low T S L G i k hr h1 h2 (by omega) w hL
      · exact walk_over T S L G i k hr h1 (by omega) w hL
    · exact walk_under T S L G i k hr (by omega) w hL

theorem laidOut : laidOutB Tryd.prog = true := by kernel_rfl
theorem own : ownKnob Tryd.prog.godebug = none := by kernel_rfl
theorem door_met (os : Os) (args : Array Value) : laidMetH Tryd.prog Rows.placeWordsRow.laid ((World.doorLaid Tryd.prog 400 os).forCall (fun _ _ => 0) ⟨#[], args, []⟩).memory :=
  laidMetH_of_parts3 (fuel := 8) (laidMet_of_run' 8 (by kernel_rfl) (by kernel_rfl)) (by kernel_rfl) (by kernel_rfl)
set_option maxRecDepth 100000 in
theorem lifted (os : Os) (started : os.Started) (H : Type) (enc : TypeId × Value → H) :
    ReturnsInHanded {} Tryd.checked os 5 .any (fun w args => (Rows.placeWordsSpec.pre enc Tryd.prog Tryd.f5 [] false w args ∧ laidMetH Tryd.prog Rows.placeWordsRow.laid w) ∧ sizedMet enc Tryd.prog Tryd.f5 (OpenSpec.ofChange Rows.placeWordsSpec) false w args) (Rows.placeWordsSpec.post enc Tryd.prog Tryd.f5 false true false false) := by
  refine Frame.liftedLaid (C := Tryd.checked) (fn := Tryd.f5) (tb := 4) own started (by kernel_rfl) Tryd.func5
    (ChangeSpec.witness_shaped (enc := enc) (C := Tryd.checked) (os := os) (X := fun w _ => laidMetH Tryd.prog Rows.placeWordsRow.laid w) false (World.doorLaid Tryd.prog 400 os) #[.agg #[.int .i64 0, .int .i64 0, .int .i64 0, .int .u64 0], .int .i64 0, .int .i64 0] 8 rfl (World.shaped_of_RefB (by kernel_rfl) (by kernel_rfl)) (by kernel_rfl) (by kernel_rfl) (by kernel_rfl) (door_met os _))
    rfl rfl Tryd.underlying4 laidOut (by kernel_rfl) (fun ds h => by match ds, h with | [_, _, _], _ => rfl) ?_
  intro W base args ds ps hval0 hA0 hlt hL
  have hval : ∀ (j : Nat) t v, Tryd.f5.params[j]? = some t → args[j]? = some v → Value.okWide Tryd.prog W .any base t v := hval0
  have hA : DataW.TrodAll enc Tryd.prog W 0 (fun _ => true) true Tryd.f5.params.toList args.toList ds ps := hA0
  rw [Tryd.params5] at hA hval
  obtain ⟨v0, vs0, d0, ds0, p0, q0, hargs, rfl, rfl, h0, r0⟩ := trodAll_cons hA
  obtain ⟨v1, vs1, d1, ds1, p1, q1, rfl, rfl, rfl, h1, r1⟩ := trodAll_cons r0
  obtain ⟨v2, vs2, d2, ds2, p2, q2, rfl, rfl, rfl, h2, r2⟩ := trodAll_cons r1
  obtain ⟨rfl, rfl, rfl⟩ := trodAll_nil r2
  obtain rfl : args = #[v0, v1, v2] := by cases args; simp_all
  obtain ⟨x0, rfl, w0_0, w0_1, w0_2, w0_3⟩ := Open.open_four_ints Tryd.underlying24 (by kernel_rfl) (by kernel_rfl) Tryd.underlying3 Tryd.underlying3 Tryd.underlying3 Tryd.underlying22 (hval 0 24 v0 rfl rfl) h0
  obtain ⟨a1, rfl, _, _, w1⟩ := open_int Tryd.underlying3 (hval 1 3 v1 rfl rfl) h1
  obtain ⟨a2, rfl, _, _, w2⟩ := open_int Tryd.underlying3 (hval 2 3 v2 rfl rfl) h2
  refine (walk x0 a1 a2 w0_0 w0_1 w0_2 w0_3 w1 w2 W (held hL)).mono fun e W' h => ?_
  exact h

theorem over : Rows.placeWordsRow.holds Tryd.pinned (OpenSpec.ofChange Rows.placeWordsSpec) :=
  OpenClaim.holds_of_wide 5 Tryd.f5 rfl rfl rfl rfl rfl rfl rfl ⟨rfl, rfl, rfl, rfl, rfl⟩ rfl rfl rfl rfl rfl (by kernel_rfl) Tryd.func5 (by kernel_rfl)
    (of_decide_eq_true (by kernel_rfl)) (by unfold Func.isWrapper; first | (rw [if_pos (by decide +kernel)]; kernel_rfl) | (rw [if_neg (by decide +kernel)]; exact ⟨rfl, rfl⟩))
    (fun os started H enc _ => lifted os started H enc)

theorem proved : Rows.PlaceWordsCardSaid :=
  Claim7.holds_tied_plain_at .later [] Rows.placeWordsCard.laidKinds true Rows.placeWordsCard.stood.harness Rows.placeWordsCard.stood.looks
    over (fun _ h => by cases h) (by kernel_rfl) (fun _ h => by cases h) placeWords_row_tie rfl ⟨rfl, rfl⟩ (by kernel_rfl) rfl
    (fun f fn hf hfn => by
      obtain rfl : f = 5 := Option.some.inj ((show Tryd.prog.funcNamed Rows.placeWordsRow.func = some 5 by kernel_rfl).symm.trans hf) |>.symm
      obtain rfl : fn = Tryd.f5 := (Option.some.inj (Tryd.func5.symm.trans hfn)).symm
      exact ⟨by kernel_rfl, fun j t ht => by
        rw [Tryd.params5] at ht
        have hm : t ∈ [24, 3, 3] := by simpa using Array.mem_of_getElem? ht
        have hall : ([24, 3, 3].all fun u => !Tryd.prog.wantsStandIn u) = true := by kernel_rfl
        exact (show Tryd.prog.wantsStandIn t = false by simpa using List.all_eq_true.1 hall t hm)⟩)
    (by kernel_rfl)
#print axioms proved
end Go.Proofs.YtjmkbcdolkgcgaaDoor.PlaceWords

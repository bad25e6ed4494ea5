/- Law 09's examples, and what the laws of layer 9 want of the listed variables. -/
import Derived.Test.YtjmkbcdolkgcgaaDoorPlaceWhere
import Derived.Test.YtjmkbcdolkgcgaaDoorPlaceText
import Derived.Test.YtjmkbcdolkgcgaaDoorPlaceFacts
import Derived.Test.YtjmkbcdolkgcgaaDoorTie
namespace Go.Proofs.YtjmkbcdolkgcgaaDoor.Law09
open Go.ChangeShapes Go.WideShapes Go.ChangeAt Go.RowKit PM Lay Str Fmt Num PlaceText Plan
open Go.Proofs.YtjmkbcdolkgcgaaDoor.Place (spotV)
set_option linter.unusedVariables false

theorem fit_of {a : Int} (h : (Lit.int .i64 a).wf = true) : Fit a := by
  simp [Lit.wf, IntKind.min, IntKind.max, IntKind.signed, IntKind.bits] at h
  unfold Fit
  omega
/-- The listed tables hold what their initialisers lay. -/
structure Held (w : World) : Prop where
  names : Names w
  tens : Tens w
theorem Held.later {w w' : World} (h : Held w) (hb : Below w.heap.size w w') : Held w' := ⟨h.names.later hb, tens_later h.tens hb⟩
theorem held_of {W : World} {l : List (String × DataW Unit)} (h : laidMetH Tryd.prog l W) (hp : (l.all fun x => x.2.handleName?.isNone) = true)
    (h1 : ("sundial/place.names", Frame.strData namesL) ∈ l) (h2 : ("internal/strconv.uint64pow10", Lib.tabData .u64 Lib.pow10Tab) ∈ l) : Held W :=
  ⟨Frame.laid_strs h hp h1 (g := 0) (by kernel_rfl) (by kernel_rfl) Tryd.underlying50 Tryd.underlying9 (by kernel_rfl) (by kernel_rfl),
    Frame.laid_ints h hp h2 (g := 1) (by kernel_rfl) (by kernel_rfl) Tryd.underlying62 Tryd.underlying22 (by kernel_rfl) (by kernel_rfl)⟩

theorem What_is {T S L G i a b c : Int} (h : whatI T S L G i = (a, b, c)) (w : World) : Calls Tryd.prog 6 #[.agg #[.int .i64 T, .int .i64 S, .int .i64 L, .int .u64 G], .int .i64 i] w fun e w' => e = .returned (.agg #[.int .i64 a, .int .i64 b, .int .i64 c]) ∧ Below w.heap.size w w' := by
  have := Place.What_any T S L G i w
  rw [h] at this
  exact this
theorem Where_is {T S L G a b c n : Int} (h : whereI T S L G (a, b, c) = n) (w : World) : Calls Tryd.prog 8 #[.agg #[.int .i64 T, .int .i64 S, .int .i64 L, .int .u64 G], .agg #[.int .i64 a, .int .i64 b, .int .i64 c]] w fun e w' => e = .returned (.int .i64 n) ∧ Below w.heap.size w w' := by
  have := Place.Where_any T S L G (a, b, c) w
  rw [h] at this
  exact this
theorem Text_is {a b c : Int} {l : List UInt8} (h : textS (a, b, c) = l) (hb : Fit b) (hc : Fit c) (w : World) (hL : Held w) : Calls Tryd.prog 10 #[.agg #[.int .i64 a, .int .i64 b, .int .i64 c]] w fun e w' => e = .returned (.string (bs l)) ∧ Below w.heap.size w w' := by
  have := PlaceText.Text_any (a, b, c) hb hc w hL.names hL.tens
  rw [h] at this
  exact this
theorem text_11 (w : World) (hL : Held w) : Calls Tryd.prog 10 #[.agg #[.int .i64 8, .int .i64 0, .int .i64 1]] w fun e w' => e = .returned (.string ⟨#[104, 101, 97, 100, 32, 49]⟩) ∧ Below w.heap.size w w' :=
  Text_is ex_head ⟨by decide, by decide⟩ ⟨by decide, by decide⟩ w hL
theorem text_24 (w : World) (hL : Held w) : Calls Tryd.prog 10 #[.agg #[.int .i64 9, .int .i64 2, .int .i64 0]] w fun e w' => e = .returned (.string ⟨#[115, 108, 111, 116, 32, 50, 32, 115, 116, 97, 116, 101]⟩) ∧ Below w.heap.size w w' :=
  Text_is ex_state ⟨by decide, by decide⟩ ⟨by decide, by decide⟩ w hL
theorem text_43 (w : World) (hL : Held w) : Calls Tryd.prog 10 #[.agg #[.int .i64 15, .int .i64 3, .int .i64 3]] w fun e w' => e = .returned (.string ⟨#[115, 108, 111, 116, 32, 51, 32, 110, 101, 120, 116, 32, 51]⟩) ∧ Below w.heap.size w w' :=
  Text_is ex_next ⟨by decide, by decide⟩ ⟨by decide, by decide⟩ w hL
set_option maxHeartbeats 1000000 in
theorem awake_any (w : World) (hL : Held w) : Calls Tryd.prog 12 #[] w fun e w' => e = .returned (.bool true) ∧ Below w.heap.size w w' := by
  have HL := Lib.hid hL
  clear hL
  have H1 := Lib.hid fun w => What_is ex_11 w
  have H2 := Lib.hid fun w => What_is ex_24 w
  have H3 := Lib.hid fun w => What_is ex_43 w
  have H4 := Lib.hid fun w => What_is ex_44 w
  have H5 := Lib.hid fun w => Where_is ex_where w
  go_enter Tryd.func12, Tryd.ntmps12
  go_wp2_with fail
  refine (H1.out _).mono ?_
  rintro e w' ⟨rfl, h⟩
  simp only [World.size_alloc] at h
  have B_1 := Lib.hid h
  clear h
  go_wp2_with fail
  refine (text_11 _ (HL.out.later (below_past B_1.out))).mono ?_
  rintro e w' ⟨rfl, h⟩
  have B_2 := Lib.hid (B_1.out.trans (h.mono (size_past B_1.out)))
  clear h
  obtain ⟨c0, c1, c2, c3⟩ := box4_later B_2.out
  go_wp2_with fail
  refine (H2.out _).mono ?_
  rintro e w' ⟨rfl, h⟩
  have B_3 := Lib.hid (B_2.out.trans (h.mono (size_past B_2.out)))
  clear h c0 c1 c2 c3
  go_wp2_with fail
  refine (text_24 _ (HL.out.later (below_past B_3.out))).mono ?_
  rintro e w' ⟨rfl, h⟩
  have B_4 := Lib.hid (B_3.out.trans (h.mono (size_past B_3.out)))
  clear h
  obtain ⟨c0, c1, c2, c3⟩ := box4_later B_4.out
  go_wp2_with fail
  refine (H3.out _).mono ?_
  rintro e w' ⟨rfl, h⟩
  have B_5 := Lib.hid (B_4.out.trans (h.mono (size_past B_4.out)))
  clear h c0 c1 c2 c3
  go_wp2_with fail
  refine (text_43 _ (HL.out.later (below_past B_5.out))).mono ?_
  rintro e w' ⟨rfl, h⟩
  have B_6 := Lib.hid (B_5.out.trans (h.mono (size_past B_5.out)))
  clear h
  obtain ⟨c0, c1, c2, c3⟩ := box4_later B_6.out
  go_wp2_with fail
  refine (H4.out _).mono ?_
  rintro e w' ⟨rfl, h⟩
  have B_7 := Lib.hid (B_6.out.trans (h.mono (size_past B_6.out)))
  clear h c0 c1 c2 c3
  obtain ⟨c0, c1, c2, c3⟩ := box4_later B_7.out
  go_wp2_with fail
  refine (H5.out _).mono ?_
  rintro e w' ⟨rfl, h⟩
  have B_8 := Lib.hid (B_7.out.trans (h.mono (size_past B_7.out)))
  clear h c0 c1 c2 c3
  go_wp2
  go_ret
  exact ⟨rfl, below_past B_8.out⟩
end Go.Proofs.YtjmkbcdolkgcgaaDoor.Law09

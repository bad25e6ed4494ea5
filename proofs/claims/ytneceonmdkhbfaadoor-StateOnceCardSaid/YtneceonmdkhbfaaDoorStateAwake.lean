/- Law 04's examples, and what the laws of layer 4 want of the listed variables. -/
import Derived.Test.YtneceonmdkhbfaaDoorStateText
import Derived.Test.YtneceonmdkhbfaaDoorTie
namespace Go.Proofs.YtneceonmdkhbfaaDoor.Law04
open Go.ChangeShapes Go.WideShapes Go.ChangeAt Go.RowKit FM SM Str Fmt StateText

theorem wf_u64 {a : Int} (h : (Lit.int .u64 a).wf = true) : 0 ≤ a ∧ a < 18446744073709551616 := by
  simp [Lit.wf, IntKind.min, IntKind.max, IntKind.signed, IntKind.bits] at h; omega
theorem wf_i64 {a : Int} (h : (Lit.int .i64 a).wf = true) : -9223372036854775808 ≤ a ∧ a ≤ 9223372036854775807 := by
  simp [Lit.wf, IntKind.min, IntKind.max, IntKind.signed, IntKind.bits] at h; omega

/-- The listed variables hold what their initialisers lay. -/
def Held (w : World) : Prop := Words w ∧ Tens w
theorem Held.later {w w' : World} (h : Held w) (hb : Below w.heap.size w w') : Held w' := ⟨h.1.later hb, tens_later h.2 hb⟩
theorem held_of {W : World} {l : List (String × DataW Unit)} (h : laidMetH Tryd.prog l W) (hp : (l.all fun x => x.2.handleName?.isNone) = true)
    (h1 : ("sundial/state.words", Frame.strData wordsL) ∈ l) (h2 : ("internal/strconv.uint64pow10", Lib.tabData .u64 Lib.pow10Tab) ∈ l) : Held W :=
  ⟨Frame.laid_strs h hp h1 gWords (by kernel_rfl) Tryd.underlying38 Tryd.underlying9 (by kernel_rfl) (by kernel_rfl),
   Frame.laid_ints h hp h2 (g := 1) (by kernel_rfl) (by kernel_rfl) Tryd.underlying48 Tryd.underlying22 (by kernel_rfl) (by kernel_rfl)⟩

theorem text_five : bs (textI 21474836482) = ⟨#[53, 32, 108, 105, 118, 101]⟩ := by
  have e : textI 21474836482 = [53, 32, 108, 105, 118, 101] := by
    show Lib.decDigits 5 ++ [32] ++ [108, 105, 118, 101] = _
    rw [Lib.decDigits_one (by decide)]
    rfl
  rw [e]
  rfl

theorem awake_any (w : World) (h : Held w) :
    Calls Tryd.prog 18 #[] w fun e w' => e = .returned (.bool true) ∧ Below w.heap.size w w' := by
  have E1 := Lib.hid (show stI 5 2 = 21474836482 by decide)
  have E2 := Lib.hid text_five
  have E3 := Lib.hid (show nextI 21474836482 = 25769803776 by decide)
  have E4 := Lib.hid (show stI 6 0 = 25769803776 by decide)
  have E5 := Lib.hid (show isI 21474836482 5 2 = true by decide)
  have E6 := Lib.hid (show isI 21474836482 5 0 = false by decide)
  obtain ⟨hW, hT⟩ := h
  go_enter Tryd.func18, Tryd.ntmps18
  go_wp2_with fail
  refine (State.Of_any 5 2 (by decide) _).mono ?_
  rintro e w' ⟨rfl, rfl⟩
  rw [E1.out]
  go_wp2_with fail
  refine (Text_any 21474836482 (by decide) (by decide) _ hW hT).mono ?_
  rintro e w' ⟨rfl, hb⟩
  rw [E2.out]
  go_wp2_with fail
  refine (State.Next_any 21474836482 (by decide) (by decide) _).mono ?_
  rintro e w' ⟨rfl, rfl⟩
  rw [E3.out]
  go_wp2_with fail
  refine (State.Of_any 6 0 (by decide) _).mono ?_
  rintro e w' ⟨rfl, rfl⟩
  rw [E4.out]
  go_wp2_with fail
  refine (State.Is_any 21474836482 5 2 (by decide) _).mono ?_
  rintro e w' ⟨rfl, rfl⟩
  rw [E5.out]
  go_wp2_with fail
  refine (State.Is_any 21474836482 5 0 (by decide) _).mono ?_
  rintro e w' ⟨rfl, rfl⟩
  rw [E6.out]
  go_wp2
  go_ret
  exact ⟨rfl, hb⟩
end Go.Proofs.YtneceonmdkhbfaaDoor.Law04

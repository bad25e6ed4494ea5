/- Law 08's examples. -/
import Derived.Test.YtdmikjfkdppofaaPlanWalks
namespace Go.Proofs.Ytdmikjfkdppofaa.Law08
open Go.ChangeShapes Go.WideShapes Go.RowKit PM Lay Plan

theorem wf_u64 {a : Int} (h : (Lit.int .u64 a).wf = true) : 0 ≤ a ∧ a < 18446744073709551616 := by
  simp [Lit.wf, IntKind.min, IntKind.max, IntKind.signed, IntKind.bits] at h; omega
theorem wf_i64 {a : Int} (h : (Lit.int .i64 a).wf = true) : -9223372036854775808 ≤ a ∧ a ≤ 9223372036854775807 := by
  simp [Lit.wf, IntKind.min, IntKind.max, IntKind.signed, IntKind.bits] at h; omega

theorem words_ex (w : World) : Calls Try.prog 7 #[.agg #[.int .i64 2, .int .i64 3, .int .i64 4, .int .u64 0]] w fun e w' => e = .returned (.int .i64 44) ∧ Below w.heap.size w w' := by
  have h := Words_any 2 3 4 0 w
  rw [show atI 2 4 (wrap64 (3 + 1)) 0 = 44 by unfold atI wrap64; decide] at h
  exact h
theorem next_ex (w : World) : Calls Try.prog 15 #[.agg #[.int .i64 2, .int .i64 3, .int .i64 4, .int .u64 0], .int .i64 0, .int .i64 1] w fun e w' => e = .returned (.int .i64 11) ∧ Below w.heap.size w w' := by
  have h := Next_any 2 3 4 0 0 1 w
  rw [show nextI 2 4 0 1 = 11 by unfold nextI ofI wrap64; decide] at h
  exact h
theorem state_ex (w : World) : Calls Try.prog 17 #[.agg #[.int .i64 2, .int .i64 3, .int .i64 4, .int .u64 0], .int .i64 2] w fun e w' => e = .returned (.int .i64 24) ∧ Below w.heap.size w w' := by
  have h := State_any 2 3 4 0 2 w
  rw [show atI 2 4 2 0 = 24 by unfold atI wrap64; decide] at h
  exact h
theorem awake_any (w : World) : Calls Try.prog 24 #[] w fun e w' => e = .returned (.bool true) ∧ Below w.heap.size w w' := by
  have H1 := Lib.hid (show rightB 2 3 4 0 = true by decide)
  have H2 := Lib.hid (show rightB 0 0 0 0 = false by decide)
  go_enter Try.func24, Try.ntmps24
  go_wp2_with fail
  refine (words_ex _).mono ?_
  rintro e w' ⟨rfl, h1⟩
  simp only [World.size_alloc] at h1
  obtain ⟨c0, c1, c2, c3⟩ := box4_later h1
  go_wp2_with fail
  refine (next_ex _).mono ?_
  rintro e w' ⟨rfl, h2⟩
  have B2 := Lib.hid (h1.trans (h2.mono (size_past h1)))
  clear h1 h2 c0 c1 c2 c3
  obtain ⟨c0, c1, c2, c3⟩ := box4_later B2.out
  go_wp2_with fail
  refine (state_ex _).mono ?_
  rintro e w' ⟨rfl, h3⟩
  have B3 := Lib.hid (B2.out.trans (h3.mono (size_past B2.out)))
  clear h3 c0 c1 c2 c3
  obtain ⟨c0, c1, c2, c3⟩ := box4_later B3.out
  go_wp2_with fail
  refine (Right_yes H1.out _).mono ?_
  rintro e w' ⟨rfl, h4⟩
  have B4 := Lib.hid (B3.out.trans (h4.mono (size_past B3.out)))
  clear h4 c0 c1 c2 c3
  go_wp2_with fail
  refine (Right_no H2.out _).mono ?_
  rintro e w' ⟨rfl, h5⟩
  have B5 := Lib.hid (B4.out.trans (h5.mono (size_past B4.out)))
  clear h5
  go_wp2
  go_ret
  exact ⟨rfl, below_past B5.out⟩
end Go.Proofs.Ytdmikjfkdppofaa.Law08

/- Law 07's examples, and what the laws of layer 7 want of the listed variables. -/
import Derived.Test.YtghinmjebkpjhaaDoorDeedDo
import Derived.Test.YtghinmjebkpjhaaDoorDeedText
import Derived.Test.YtghinmjebkpjhaaDoorTie
namespace Go.Proofs.YtghinmjebkpjhaaDoor.Law07
open Go.ChangeShapes Go.WideShapes Go.ChangeAt Go.RowKit CM DM Lay Ints Cells Str Fmt

theorem wf_u64 {a : Int} (h : (Lit.int .u64 a).wf = true) : 0 ≤ a ∧ a < 18446744073709551616 := by
  simp [Lit.wf, IntKind.min, IntKind.max, IntKind.signed, IntKind.bits] at h; omega
theorem wf_i64 {a : Int} (h : (Lit.int .i64 a).wf = true) : -9223372036854775808 ≤ a ∧ a ≤ 9223372036854775807 := by
  simp [Lit.wf, IntKind.min, IntKind.max, IntKind.signed, IntKind.bits] at h; omega
theorem fits_of {x : D} (h1 : (Lit.int .i64 x.2.1).wf = true) (h2 : (Lit.int .u64 x.2.2.1).wf = true) (h3 : (Lit.int .u64 x.2.2.2.1).wf = true) (h4 : (Lit.int .u64 x.2.2.2.2).wf = true) : Fits x :=
  ⟨wf_i64 h1, wf_u64 h2, wf_u64 h3, wf_u64 h4⟩

/-- The listed table holds what its initialiser lays. -/
theorem held_of {W : World} {l : List (String × DataW Unit)} (h : laidMetH Tryd.prog l W) (hp : (l.all fun x => x.2.handleName?.isNone) = true)
    (h2 : ("internal/strconv.uint64pow10", Lib.tabData .u64 Lib.pow10Tab) ∈ l) : Tens W :=
  Frame.laid_ints h hp h2 (g := 0) (by kernel_rfl) (by kernel_rfl) Tryd.underlying86 Tryd.underlying29 (by kernel_rfl) (by kernel_rfl)

theorem box5_later {w wr : World} {v0 v1 v2 v3 v4 : Value} {t : TypeId} (hb : Below (w.heap.size + 1) (w.alloc (.cells #[v0, v1, v2, v3, v4] t)) wr) : wr.cell? ⟨w.heap.size, 0, none⟩ = some v0 ∧ wr.cell? ⟨w.heap.size, 1, none⟩ = some v1 ∧ wr.cell? ⟨w.heap.size, 2, none⟩ = some v2 ∧ wr.cell? ⟨w.heap.size, 3, none⟩ = some v3 ∧ wr.cell? ⟨w.heap.size, 4, none⟩ = some v4 :=
  ⟨box_cell hb 0, box_cell hb 1, box_cell hb 2, box_cell hb 3, box_cell hb 4⟩
theorem text_ex (w : World) (hT : Tens w) : Calls Tryd.prog 15 #[.agg #[.int .i64 3, .int .i64 3, .int .u64 5, .int .u64 6, .int .u64 0]] w fun e w' => e = .returned (.string ⟨#[115, 119, 97, 112, 32, 51, 32, 53, 32, 54]⟩) ∧ Below w.heap.size w w' := by
  have h := DeedText.Text_any (3, 3, 5, 6, 0) (by unfold Fits; decide) w hT
  rw [example_text] at h
  exact h
theorem awake_any (w : World) (hT : Tens w) : Calls Tryd.prog 6 #[] w fun e w' => e = .returned (.bool true) ∧ Below w.heap.size w w' := by
  have HT := Lib.hid hT
  have H1 := Lib.hid (DeedDo.After_is (v := 5) (u := 6) (x := (3, 3, 5, 6, 0)) (by decide))
  have H2 := Lib.hid (DeedDo.After_is (v := 4) (u := 4) (x := (3, 3, 5, 6, 0)) (by decide))
  have H3 := Lib.hid (DeedDo.Changes_yes (v := 5) (u := 6) (x := (3, 3, 5, 6, 0)) (by decide) (by decide))
  clear hT
  go_enter Tryd.func6, Tryd.ntmps6
  go_wp2_with fail
  refine (H1.out _).mono ?_
  rintro e w' ⟨rfl, h1⟩
  simp only [World.size_alloc] at h1
  obtain ⟨c0, c1, c2, c3, c4⟩ := box5_later h1
  go_wp2_with fail
  refine (H2.out _).mono ?_
  rintro e w' ⟨rfl, h2⟩
  have B2 := Lib.hid (h1.trans (h2.mono (size_past h1)))
  clear h1 h2 c0 c1 c2 c3 c4
  obtain ⟨c0, c1, c2, c3, c4⟩ := box5_later B2.out
  go_wp2_with fail
  refine (H3.out _).mono ?_
  rintro e w' ⟨rfl, h3⟩
  have B3 := Lib.hid (B2.out.trans (h3.mono (size_past B2.out)))
  clear h3 c0 c1 c2 c3 c4
  obtain ⟨c0, c1, c2, c3, c4⟩ := box5_later B3.out
  go_wp2_with fail
  refine (text_ex _ (DeedText.tens_later HT.out (below_past B3.out))).mono ?_
  rintro e w' ⟨rfl, h4⟩
  have B4 := Lib.hid (B3.out.trans (h4.mono (size_past B3.out)))
  clear h4 c0 c1 c2 c3 c4
  go_wp2
  go_ret
  exact ⟨rfl, below_past B4.out⟩
end Go.Proofs.YtghinmjebkpjhaaDoor.Law07

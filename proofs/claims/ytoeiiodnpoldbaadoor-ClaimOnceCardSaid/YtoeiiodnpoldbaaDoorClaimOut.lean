/- Law 24's ClaimOnce where there is nothing to claim: of a plan that is not right, or too many references. -/
import Derived.Test.YtoeiiodnpoldbaaDoorClaimAwake
import Derived.Test.YtoeiiodnpoldbaaDoorBlankWalks
import Derived.Deep.DeepCutAuto
namespace Go.Proofs.YtoeiiodnpoldbaaDoor.ClaimOut
set_option maxRecDepth 20000
open Go.ChangeShapes Go.WideShapes Go.ChangeAt Go.RowKit CM DM PM KM ClM Lay Plan Go.Proofs.YtoeiiodnpoldbaaDoor.Task
open Go.Proofs.YtoeiiodnpoldbaaDoor.Law24 (plan4 awake_any wf_u64 wf_i64)
set_option linter.unusedVariables false
set_option linter.unusedSimpArgs false
/-- The plan's cells behind its box and the states' one. -/
theorem plan_in (w : World) (T S L G : Int) (zs : List Int) : ((w.alloc (.cells #[.int .i64 T, .int .i64 S, .int .i64 L, .int .u64 G] 24)).alloc (.cells (zs.map (Value.int .u64)).toArray 25)).cell? ⟨w.heap.size, 0, none⟩ = some (.int .i64 T) ∧ ((w.alloc (.cells #[.int .i64 T, .int .i64 S, .int .i64 L, .int .u64 G] 24)).alloc (.cells (zs.map (Value.int .u64)).toArray 25)).cell? ⟨w.heap.size, 1, none⟩ = some (.int .i64 S) ∧ ((w.alloc (.cells #[.int .i64 T, .int .i64 S, .int .i64 L, .int .u64 G] 24)).alloc (.cells (zs.map (Value.int .u64)).toArray 25)).cell? ⟨w.heap.size, 2, none⟩ = some (.int .i64 L) ∧ ((w.alloc (.cells #[.int .i64 T, .int .i64 S, .int .i64 L, .int .u64 G] 24)).alloc (.cells (zs.map (Value.int .u64)).toArray 25)).cell? ⟨w.heap.size, 3, none⟩ = some (.int .u64 G) :=
  box4_later (by have := box_below (w.alloc (.cells #[.int .i64 T, .int .i64 S, .int .i64 L, .int .u64 G] 24)) (.cells (zs.map (Value.int .u64)).toArray 25); rwa [World.size_alloc] at this)
theorem two_boxes (w : World) (T S L G : Int) (zs : List Int) : Below w.heap.size w ((w.alloc (.cells #[.int .i64 T, .int .i64 S, .int .i64 L, .int .u64 G] 24)).alloc (.cells (zs.map (Value.int .u64)).toArray 25)) := (box_below w (.cells #[.int .i64 T, .int .i64 S, .int .i64 L, .int .u64 G] 24)).trans ((box_below (w.alloc (.cells #[.int .i64 T, .int .i64 S, .int .i64 L, .int .u64 G] 24)) (.cells (zs.map (Value.int .u64)).toArray 25)).mono (by simp))
/-- The states' box. -/
theorem ep_at {w : World} {T S L G : Int} {zs : List Int} {j : Nat} (hj : j < zs.length) : ((w.alloc (.cells #[.int .i64 T, .int .i64 S, .int .i64 L, .int .u64 G] 24)).alloc (.cells (zs.map (Value.int .u64)).toArray 25)).cell? ⟨w.heap.size + 1, j, none⟩ = some (.int .u64 (zs[j]?.getD 0)) := by
  have h := new_heap (w.alloc (.cells #[.int .i64 T, .int .i64 S, .int .i64 L, .int .u64 G] 24)) (.cells (zs.map (Value.int .u64)).toArray 25)
  rw [World.size_alloc] at h
  have h2 := (cell_heap h j).1
  rw [h2]
  simp [List.getElem?_eq_getElem hj]
theorem walk_no (T S L G : Int) (zs : List Int) (hr : rightB T S L G = false) (A : Option Addr) (n c : Nat) (w : World) : Calls Tryd.prog 3 #[.agg #[.int .i64 T, .int .i64 S, .int .i64 L, .int .u64 G], .agg (zs.map (Value.int .u64)).toArray, .slice A n c] w fun e w' => e = .returned (.bool true) ∧ Below w.heap.size w w' := by
  have HR := Lib.hid hr
  have HB0 := Lib.hid (two_boxes w T S L G zs)
  obtain ⟨c_0, c_1, c_2, c_3⟩ := plan_in w T S L G zs
  clear hr
  go_enter Tryd.func3, Tryd.ntmps3
  go_wp2_with fail
  refine (Blank.Make_no HR.out _).mono ?_
  rintro e w1 ⟨rfl, b1⟩
  have HB1 := Lib.hid (HB0.out.trans (b1.mono HB0.out.size))
  clear b1 c_0 c_1 c_2 c_3
  go_wp2_with fail
  refine (awake_any _).mono ?_
  rintro e w4 ⟨rfl, b4⟩
  go_wp2
  go_ret
  exact ⟨rfl, HB1.out.trans (b4.mono HB1.out.size)⟩
theorem walk_many (T S L : Nat) (G : Int) (zs : List Int) (hr : rightB (T : Int) (S : Int) (L : Int) G = true) (hG : 0 ≤ G) (A : Option Addr) (n c : Nat) (hn : n ≤ 9223372036854775807) (h2 : (100 : Int) < (n : Int)) (w : World) : Calls Tryd.prog 3 #[.agg #[.int .i64 (T : Int), .int .i64 (S : Int), .int .i64 (L : Int), .int .u64 G], .agg (zs.map (Value.int .u64)).toArray, .slice A n c] w fun e w' => e = .returned (.bool true) ∧ Below w.heap.size w w' := by
  have HR := Lib.hid hr
  have HG := Lib.hid hG
  have HC := Lib.hid (plan_in w (T : Int) (S : Int) (L : Int) G zs)
  have HB0 := Lib.hid (two_boxes w (T : Int) (S : Int) (L : Int) G zs)
  obtain ⟨c_0, c_1, c_2, c_3⟩ := HC.out
  clear hr hG
  go_enter Tryd.func3, Tryd.ntmps3
  go_wp2_with fail
  refine (Blank.Make_yes HR.out HG.out _).mono ?_
  rintro e w1 ⟨p, h, rfl, m1, p1, h1, b1⟩
  have HB1 := Lib.hid (HB0.out.trans (b1.mono HB0.out.size))
  clear c_0 c_1 c_2 c_3
  clear b1 m1 p1 h1
  go_wp2_with fail
  refine (awake_any _).mono ?_
  rintro e w4 ⟨rfl, b4⟩
  go_wp2
  go_ret
  exact ⟨rfl, HB1.out.trans (b4.mono HB1.out.size)⟩
end Go.Proofs.YtoeiiodnpoldbaaDoor.ClaimOut

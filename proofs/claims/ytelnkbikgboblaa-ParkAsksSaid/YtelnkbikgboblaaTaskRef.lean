/- The document's answers for layer 11 (package sundialref11): two lists of acts, or of deeds, that are one are told as the same. -/
import Derived.Test.YtelnkbikgboblaaTaskEq
namespace Go.Proofs.Ytelnkbikgboblaa.TaskRef
set_option maxRecDepth 20000
open Go.ChangeShapes Go.WideShapes Go.RowKit CM DM Lay Ints Cells Go.Proofs.Ytelnkbikgboblaa.Task
set_option linter.unusedVariables false

set_option maxHeartbeats 400000 in
theorem Same_yes {A1 A2 : Option Addr} {l : List (D)} {n1 n2 c1 c2 : Nat} {w : World} (h1 : n1 = l.length) (h2 : n2 = l.length) (hR1 : Row w w.heap.size A1 (flat encD l)) (hR2 : Row w w.heap.size A2 (flat encD l)) (hl : n1 ≤ 1000000) :
    Calls Try.prog 9 #[.slice A1 n1 c1, .slice A2 n2 c2] w fun e w' => e = .returned (.bool true) ∧ Below w.heap.size w w' := by
  obtain rfl : n1 = n2 := h1.trans h2.symm
  have HN := Lib.hid h1
  have HR1 := Lib.hid hR1
  have HR2 := Lib.hid hR2
  clear h1 h2 hR1 hR2
  go_enter Try.func9, Try.ntmps9
  go_wp2
  go_loopw [5] (fun i wr => ∃ k : Nat, k ≤ n1 ∧ i = .int .i64 k ∧ Below w.heap.size w wr) (fun i _ => n1 - (intOf i).toNat)
  case atStart => exact ⟨0, Nat.zero_le _, rfl, Below.refl _ _⟩
  case round =>
    obtain ⟨k, hk, rfl, hb⟩ := hrel
    by_cases hlt : k < n1
    · have hk1 : k < l.length := by rw [← HN.out]; exact hlt
      obtain ⟨b1, o1, rfl, _, hc1⟩ := Open.five_at (HR1.out.later hb) hk1
      obtain ⟨b2, o2, rfl, _, hc2⟩ := Open.five_at (HR2.out.later hb) hk1
      obtain ⟨x, hx⟩ : ∃ x, l[k]? = some x := ⟨_, List.getElem?_eq_getElem hk1⟩
      obtain ⟨c0, c1, c2, c3, c4⟩ := hc1 k x hx
      obtain ⟨q0, q1, q2, q3, q4⟩ := hc2 k x hx
      have hgu := guardD
      have N1 := fun W => neqD x x W
      rw [decide_eq_true rfl] at N1
      simp only [Bool.not_true] at N1
      clear hc1 hc2 hx
      obtain ⟨C0, C1, C2, C3, C4, Q0, Q1, Q2, Q3, Q4⟩ := And.intro (fun p : After wr => p.cell c0) (And.intro (fun p : After wr => p.cell c1) (And.intro (fun p : After wr => p.cell c2) (And.intro (fun p : After wr => p.cell c3) (And.intro (fun p : After wr => p.cell c4) (And.intro (fun p : After wr => p.cell q0) (And.intro (fun p : After wr => p.cell q1) (And.intro (fun p : After wr => p.cell q2) (And.intro (fun p : After wr => p.cell q3) (fun p : After wr => p.cell q4)))))))))
      clear c0 c1 c2 c3 c4 q0 q1 q2 q3 q4
      go_wp2
      refine wp_region_after mixed (by kernel_rfl) ?_
      repeat (first | go_big_quiet_step (fail) | quiet_step (fail))
      refine wpQuiet_nil ?_
      intro _ hw'
      obtain ⟨pq, hw''⟩ := hw'
      subst hw''
      go_wp2
      go_roundw
      case rel => exact ⟨k + 1, by omega, by go_num, hb.trans (pq.ok.mono hb.size)⟩
      case measure => simp [intOf]; omega
    · go_wp2
      go_ret
      exact ⟨rfl, hb⟩
end Go.Proofs.Ytelnkbikgboblaa.TaskRef

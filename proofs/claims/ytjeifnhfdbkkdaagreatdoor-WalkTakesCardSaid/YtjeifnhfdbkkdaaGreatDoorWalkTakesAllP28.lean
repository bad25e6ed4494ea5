import Derived.Test.YtjeifnhfdbkkdaaGreatDoorWalkTakesAllP14
import Derived.Test.YtjeifnhfdbkkdaaGreatDoorWalkTakesAllP18
import Derived.Test.YtjeifnhfdbkkdaaGreatDoorWalkTakesAllP9
import Derived.Test.YtjeifnhfdbkkdaaGreatDoorWalkTakesAllP3
/- The document's answers for layer 26 (package sundialref26): the timers alone; two lists of timers that are one are told as the same. -/
namespace Go.Proofs.YtjeifnhfdbkkdaaGreatDoor.WalkDues
set_option maxRecDepth 20000
open Go.ChangeShapes Go.WideShapes Go.RowKit Lay Ints Plan Go.Proofs.YtjeifnhfdbkkdaaGreatDoor.Open Go.Proofs.YtjeifnhfdbkkdaaGreatDoor.DueRows
set_option linter.unusedVariables false
set_option linter.unusedSimpArgs false

theorem neqU (x y : Int × Int × Int) (w : World) : (binOp .neq 77 (.agg #[.int .u64 x.1, .int .i64 x.2.1, .int .u64 x.2.2]) (.agg #[.int .u64 y.1, .int .i64 y.2.1, .int .u64 y.2.2])).run Tryz.prog w = .ok (.bool (!decide (x = y))) w := by
  have u3 := Tryz.underlying3
  have a3 := Tryz.isAgg3
  have z3 := Tryz.sizeOf3
  have u4 := Tryz.underlying22
  have a4 := Tryz.isAgg22
  have z4 := Tryz.sizeOf22
  have hS : Tryz.prog.underlying 77 = some (.struct (Tryz.prog.fieldsOf 77)) := by kernel_rfl
  have hp : Tryz.prog.stoodInHeld 77 = false := by kernel_rfl
  rw [run_neq_struct, show (10000 : Nat) = 9999 + 1 from rfl, run_equalIn_agg w 9999 77 _ _ hS hp]
  simp only [Program.fieldsOf, Tryz.underlying77]
  go_simp
  obtain ⟨a1, a2, a3⟩ := x
  obtain ⟨b1, b2, b3⟩ := y
  by_cases h1 : a1 = b1 <;> by_cases h2 : a2 = b2 <;> by_cases h3 : a3 = b3 <;> simp [h1, h2, h3]
theorem guardU : Tryz.prog.eqGuardType Tryz.prog.depth 77 = false := by kernel_rfl
set_option maxHeartbeats 400000 in
theorem Same_yes {A1 A2 : Option Addr} {l : List (Int × Int × Int)} {n1 n2 c1 c2 : Nat} {w : World} (h1 : n1 = l.length) (h2 : n2 = l.length) (hR1 : Row w w.heap.size A1 (flat encU l)) (hR2 : Row w w.heap.size A2 (flat encU l)) (hl : n1 ≤ 1000000) :
    Calls Tryz.prog 14 #[.slice A1 n1 c1, .slice A2 n2 c2] w fun e w' => e = .returned (.bool true) ∧ Below w.heap.size w w' := by
  obtain rfl : n1 = n2 := h1.trans h2.symm
  have HN := Lib.hid h1
  have HR1 := Lib.hid hR1
  have HR2 := Lib.hid hR2
  clear h1 h2 hR1 hR2
  go_enter Tryz.func14, Tryz.ntmps14
  go_wp2
  go_loopw [5] (fun i wr => ∃ k : Nat, k ≤ n1 ∧ i = .int .i64 k ∧ Below w.heap.size w wr) (fun i _ => n1 - (intOf i).toNat)
  case atStart => exact ⟨0, Nat.zero_le _, rfl, Below.refl _ _⟩
  case round =>
    obtain ⟨k, hk, rfl, hb⟩ := hrel
    by_cases hlt : k < n1
    · have hk1 : k < l.length := by rw [← HN.out]; exact hlt
      obtain ⟨b1, o1, rfl, _, hc1⟩ := three_at (HR1.out.later hb) hk1
      obtain ⟨b2, o2, rfl, _, hc2⟩ := three_at (HR2.out.later hb) hk1
      obtain ⟨x, hx⟩ : ∃ x, l[k]? = some x := ⟨_, List.getElem?_eq_getElem hk1⟩
      obtain ⟨c0, c1, c2⟩ := hc1 k x hx
      obtain ⟨q0, q1, q2⟩ := hc2 k x hx
      have hgu := guardU
      have N1 := fun W => neqU x x W
      rw [decide_eq_true rfl] at N1
      simp only [Bool.not_true] at N1
      clear hc1 hc2 hx
      have C0 := fun p : After wr => p.cell c0
      have C1 := fun p : After wr => p.cell c1
      have C2 := fun p : After wr => p.cell c2
      have Q0 := fun p : After wr => p.cell q0
      have Q1 := fun p : After wr => p.cell q1
      have Q2 := fun p : After wr => p.cell q2
      clear c0 c1 c2 q0 q1 q2
      go_wp2
      refine wp_region_after mixed (by kernel_rfl) ?_
      repeat (first | go_big_quiet_step (fail) | quiet_step (fail))
      refine wpQuiet_nil ?_
      intro _ hw'
      obtain ⟨pq, hw''⟩ := hw'
      subst hw''
      go_wp2
      go_roundw
      case rel => exact ⟨k + 1, by omega, by go_num, hb.trans (pq.ok.mono hb.size)⟩
      case measure => simp [intOf]; omega
    · go_wp2
      go_ret
      exact ⟨rfl, hb⟩
end Go.Proofs.YtjeifnhfdbkkdaaGreatDoor.WalkDues

/- The document's answers for layer 26 (package sundialref26): the timers alone; two lists of timers that are one are told as the same. -/
import Derived.Test.YtjeifnhfdbkkdaaDueRows
import Derived.Test.YtjeifnhfdbkkdaaInts
import Derived.Test.YtjeifnhfdbkkdaaFour
import Derived.Test.YtjeifnhfdbkkdaaPlanWalks
namespace Go.Proofs.Ytjeifnhfdbkkdaa.WalkDues
set_option maxRecDepth 20000
open Go.ChangeShapes Go.WideShapes Go.RowKit Lay Ints Plan Go.Proofs.Ytjeifnhfdbkkdaa.Open Go.Proofs.Ytjeifnhfdbkkdaa.DueRows
set_option linter.unusedVariables false
set_option linter.unusedSimpArgs false

theorem neqU (x y : Int × Int × Int) (w : World) : (binOp .neq 62 (.agg #[.int .u64 x.1, .int .i64 x.2.1, .int .u64 x.2.2]) (.agg #[.int .u64 y.1, .int .i64 y.2.1, .int .u64 y.2.2])).run Try.prog w = .ok (.bool (!decide (x = y))) w := by
  have u3 := Try.underlying3
  have a3 := Try.isAgg3
  have z3 := Try.sizeOf3
  have u4 := Try.underlying22
  have a4 := Try.isAgg22
  have z4 := Try.sizeOf22
  have hS : Try.prog.underlying 62 = some (.struct (Try.prog.fieldsOf 62)) := by kernel_rfl
  have hp : Try.prog.stoodInHeld 62 = false := by kernel_rfl
  rw [run_neq_struct, show (10000 : Nat) = 9999 + 1 from rfl, run_equalIn_agg w 9999 62 _ _ hS hp]
  simp only [Program.fieldsOf, Try.underlying62]
  go_simp
  obtain ⟨a1, a2, a3⟩ := x
  obtain ⟨b1, b2, b3⟩ := y
  by_cases h1 : a1 = b1 <;> by_cases h2 : a2 = b2 <;> by_cases h3 : a3 = b3 <;> simp [h1, h2, h3]
theorem guardU : Try.prog.eqGuardType Try.prog.depth 62 = false := by kernel_rfl
set_option maxHeartbeats 400000 in
theorem Same_yes {A1 A2 : Option Addr} {l : List (Int × Int × Int)} {n1 n2 c1 c2 : Nat} {w : World} (h1 : n1 = l.length) (h2 : n2 = l.length) (hR1 : Row w w.heap.size A1 (flat encU l)) (hR2 : Row w w.heap.size A2 (flat encU l)) (hl : n1 ≤ 1000000) :
    Calls Try.prog 10 #[.slice A1 n1 c1, .slice A2 n2 c2] w fun e w' => e = .returned (.bool true) ∧ Below w.heap.size w w' := by
  obtain rfl : n1 = n2 := h1.trans h2.symm
  have HN := Lib.hid h1
  have HR1 := Lib.hid hR1
  have HR2 := Lib.hid hR2
  clear h1 h2 hR1 hR2
  go_enter Try.func10, Try.ntmps10
  go_wp2
  go_loopw [5] (fun i wr => ∃ k : Nat, k ≤ n1 ∧ i = .int .i64 k ∧ Below w.heap.size w wr) (fun i _ => n1 - (intOf i).toNat)
  case atStart => exact ⟨0, Nat.zero_le _, rfl, Below.refl _ _⟩
  case round =>
    obtain ⟨k, hk, rfl, hb⟩ := hrel
    by_cases hlt : k < n1
    · have hk1 : k < l.length := by rw [← HN.out]; exact hlt
      obtain ⟨b1, o1, rfl, _, hc1⟩ := three_at (HR1.out.later hb) hk1
      obtain ⟨b2, o2, rfl, _, hc2⟩ := three_at (HR2.out.later hb) hk1
      obtain ⟨x, hx⟩ : ∃ x, l[k]? = some x := ⟨_, List.getElem?_eq_getElem hk1⟩
      obtain ⟨c0, c1, c2⟩ := hc1 k x hx
      obtain ⟨q0, q1, q2⟩ := hc2 k x hx
      have hgu := guardU
      have N1 := fun W => neqU x x W
      rw [decide_eq_true rfl] at N1
      simp only [Bool.not_true] at N1
      clear hc1 hc2 hx
      have C0 := fun p : After wr => p.cell c0
      have C1 := fun p : After wr => p.cell c1
      have C2 := fun p : After wr => p.cell c2
      have Q0 := fun p : After wr => p.cell q0
      have Q1 := fun p : After wr => p.cell q1
      have Q2 := fun p : After wr => p.cell q2
      clear c0 c1 c2 q0 q1 q2
      go_wp2
      refine wp_region_after mixed (by kernel_rfl) ?_
      repeat (first | go_big_quiet_step (fail) | quiet_step (fail))
      refine wpQuiet_nil ?_
      intro _ hw'
      obtain ⟨pq, hw''⟩ := hw'
      subst hw''
      go_wp2
      go_roundw
      case rel => exact ⟨k + 1, by omega, by go_num, hb.trans (pq.ok.mono hb.size)⟩
      case measure => simp [intOf]; omega
    · go_wp2
      go_ret
      exact ⟨rfl, hb⟩
/-- A timer that was taken, as the document's answer keeps it: with the deed. -/
theorem Dues_any {A : Option Addr} {l : List (Int × Int × Int × Int)} {n c : Nat} {w : World} (hn : n = l.length) (hR : Row w w.heap.size A (flat (enc4 .u64 .i64 .u64 .i64) l)) (hl : n ≤ 1000000) :
    Calls Try.prog 12 #[.slice A n c] w fun e w' => ∃ A' c', e = .returned (.slice A' n c') ∧ w'.ownsRow w.heap.size 62 3 (.slice A' n c') n (flat encU (l.map fun x => (x.1, x.2.1, x.2.2.1))) ∧ Below w.heap.size w w' := by
  obtain ⟨i0, hi, hz0, hz1, hz2⟩ := info_parts info_due
  have HN := Lib.hid hn
  have HR := Lib.hid hR
  clear hn hR
  go_enter Try.func12, Try.ntmps12
  go_wp2
  go_loopw [3, 4] (fun v iv wr => ∃ k : Nat, k ≤ n ∧ iv = .int .i64 k ∧ wr.ownsRow w.heap.size 62 3 v k (flat encU ((l.take k).map fun x => (x.1, x.2.1, x.2.2.1))) ∧ Below w.heap.size w wr) (fun _ iv _ => n - (intOf iv).toNat)
  case atStart => exact ⟨0, Nat.zero_le _, rfl, World.ownsRow_nil _ _ _ _, Below.refl _ _⟩
  case round =>
    obtain ⟨k, hk, rfl, ho, hb⟩ := hrel
    obtain ⟨A', c', rfl, hc'⟩ := slice_of_own ho
    have HO := Lib.hid ho
    have HB := Lib.hid hb
    have hsz := hb.size
    by_cases hlt : k < n
    · have hk1 : k < l.length := by rw [← HN.out]; exact hlt
      obtain ⟨b1, o1, rfl, _, hc1⟩ := four_at (HR.out.later hb) hk1
      obtain ⟨x, hx⟩ : ∃ x, l[k]? = some x := ⟨_, List.getElem?_eq_getElem hk1⟩
      obtain ⟨q0, q1, q2, q3⟩ := hc1 k x hx
      have HE := Lib.hid (show flat encU ((l.take (k + 1)).map fun x => (x.1, x.2.1, x.2.2.1)) = flat encU ((l.take k).map fun x => (x.1, x.2.1, x.2.2.1)) ++ encU (x.1, x.2.1, x.2.2.1) from by
        rw [List.take_add_one, hx, List.map_append, flat_append]
        simp [flat_one])
      clear hc1 hx ho hb
      go_wp2_with (at_builtin; refine wpList_append_only _ rfl (.tmp 11) (.tmp 17) 43 rfl w.heap.size 62 i0 _ 3 24 Try.underlying43 hi hz0 hz1 hz2 rfl (by decide) _ k _ rfl (HO.out.alloc _) ⟨wr.heap.size, 0, none⟩ 1 1 (encU (x.1, x.2.1, x.2.2.1)) rfl (by decide) rfl (cells_new _ _ _) (enc3_one _ _ _ _) (by simp only [maxLen]; omega) (by omega) (by simp; omega) ?_; intro g2 cap w3 ho3 hg3 hlt3 hor3 hon3; have HO3 := Lib.hid ho3; have HB3 := Lib.hid (show Below w.heap.size w w3 from (HB.out.trans (((Below.refl wr.heap.size wr).alloc (Nat.le_refl _) _).mono HB.out.size)).trans (hon3.below (by simp; omega) (fun j e => (HO.out.lt j e).1))); clear ho3 hg3 hlt3 hor3 hon3)
      go_roundw
      case rel => exact ⟨k + 1, by omega, by go_num, by rw [HE.out]; exact HO3.out, HB3.out⟩
      case measure => simp [intOf]; omega
    · obtain rfl : k = n := by omega
      have HL := Lib.hid (show (l.take k).map (fun x => (x.1, x.2.1, x.2.2.1)) = l.map (fun x => (x.1, x.2.1, x.2.2.1)) by rw [HN.out, List.take_length])
      rw [HL.out] at HO
      clear ho hb HL
      go_wp2
      go_ret
      exact ⟨_, _, rfl, HO.out, HB.out⟩
end Go.Proofs.Ytjeifnhfdbkkdaa.WalkDues

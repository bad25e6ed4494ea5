import Derived.Test.YtjeifnhfdbkkdaaGreatDoorRows
import Derived.Test.YtjeifnhfdbkkdaaGreatDoorWalkTakesAllP12
import Derived.Test.YtjeifnhfdbkkdaaGreatDoorWalkTakesAllP10
import Derived.Deep.RegionLaw
import Derived.Lib.SliceRun
/- Rows of timers that were taken (api.Due): reading them, the last one's number stored, slices.Clone. -/
namespace Go.Proofs.YtjeifnhfdbkkdaaGreatDoor.DueRows
set_option maxRecDepth 20000
open Go.ChangeShapes Go.WideShapes Go.RowKit Lay Go.Proofs.YtjeifnhfdbkkdaaGreatDoor.Open
set_option linter.unusedVariables false
set_option linter.unusedSimpArgs false

/-- A timer's three cells: its handle, its deadline, its number. -/
abbrev encU : Int × Int × Int → List Value := enc3 .u64 .i64 .u64
theorem encU_length (x : Int × Int × Int) : (encU x).length = 3 := rfl
theorem info_due : (Tryz.prog.info? 77).map (fun i => (i.zero, i.size, i.bytes)) = some (some (.agg #[.int .u64 0, .int .i64 0, .int .u64 0]), 3, 24) := by kernel_rfl
theorem flat_last (l : List (Int × Int × Int)) (h d z f : Int) : (flat encU (l ++ [(h, d, z)])).set (l.length * 3 + 2) (.int .u64 f) = flat encU (l ++ [(h, d, f)]) := by
  rw [flat_append, flat_append, flat_one, flat_one, List.set_append_right _ _ (by rw [flat_length encU_length]; omega), flat_length encU_length, show l.length * 3 + 2 - l.length * 3 = 2 by omega]
  rfl
/-- The last one's number stored. -/
theorem own_last {w : World} {base g cap n : Nat} {e : TypeId} {l : List (Int × Int × Int)} {h d z : Int} (ho : w.ownsRow base e 3 (.slice (some ⟨g, 0, none⟩) n cap) n (flat encU (l ++ [(h, d, z)]))) (hn : n = l.length + 1) (f : Int) :
    w.cell? ⟨g, l.length * 3 + 2, none⟩ = some (.int .u64 z) ∧ w.frozen? ⟨g, l.length * 3 + 2, none⟩ = false ∧ (w.setCell ⟨g, l.length * 3 + 2, none⟩ (.int .u64 f)).ownsRow base e 3 (.slice (some ⟨g, 0, none⟩) n cap) n (flat encU (l ++ [(h, d, f)])) := by
  refine ⟨?_, ho.frozenAt _, ?_⟩
  · rw [ho.cellAt _ (by omega)]
    exact flat_get encU_length (i := 2) (by decide) (l ++ [(h, d, z)]) l.length (h, d, z) (by simp)
  · rw [← flat_last l h d z f]
    exact (ho.stored _ _).1
/-- The same timers, in a row of the call's own. -/
theorem Clone_any {A : Option Addr} {n c : Nat} {l : List (Int × Int × Int)} {w : World} (hR : Row w w.heap.size A (flat encU l)) (hn : n = l.length) (hl : n ≤ 1000000) : Calls Tryz.prog 33 #[.slice A n c] w fun e w' =>
    ∃ A' c', e = .returned (.slice A' n c') ∧ w'.ownsRow w.heap.size 77 3 (.slice A' n c') n (flat encU l) ∧ Below w.heap.size w w' := by
  cases A with
  | none =>
    have h0 : l = [] := by
      cases l with
      | nil => rfl
      | cons x xs =>
        obtain ⟨_, _, e, _⟩ := hR (by simp [flat_cons, encU, enc3])
        cases e
    subst h0
    subst hn
    clear hR
    have hnil := Lib.run_eql_slice_nil (P := Tryz.prog) w 43 77 none 0 c 0 0 Tryz.underlying43
    go_enter Tryz.func33, Tryz.ntmps33
    go_wp2
    go_ret
    exact ⟨none, 0, rfl, World.ownsRow_nil _ _ _ _, Below.refl _ _⟩
  | some a =>
    obtain ⟨i0, hi, hz0, hz1, hz2⟩ := info_parts info_due
    have HR := Lib.hid hR
    have HF := Lib.hid (show (flat encU l).length = n * 3 by rw [flat_length encU_length, hn])
    clear hR hn
    have hnil := Lib.run_eql_slice_nil (P := Tryz.prog) w 43 77 (some a) n c 0 0 Tryz.underlying43
    go_enter Tryz.func33, Tryz.ntmps33
    go_wp2_with (at_builtin; refine wpList_append_row _ w rfl (.tmp 5) (.tmp 6) 43 rfl w.heap.size 77 i0 _ 3 24 Tryz.underlying43 hi hz0 hz1 hz2 rfl (by decide) _ 0 [] rfl (World.ownsRow_made w #[] 0 (Nat.le_refl _) (by simp [maxLen]) (by simp)) (some a) n c w.heap.size (flat encU l) rfl HF.out (HR.out.below ((Below.refl _ _).alloc (Nat.le_refl _) _)) (flat_oneCell (enc3_one _ _ _) l) (by simp only [maxLen]; omega) (by omega) (by simp) ((Below.refl _ _).alloc (Nat.le_refl _) _) ?_; intro A1 c1 w1 hown1 hb1)
    rw [Nat.zero_add, List.nil_append] at hown1
    have HO := Lib.hid hown1
    clear hown1
    go_wp2
    go_ret
    exact ⟨_, _, rfl, HO.out, hb1⟩
end Go.Proofs.YtjeifnhfdbkkdaaGreatDoor.DueRows

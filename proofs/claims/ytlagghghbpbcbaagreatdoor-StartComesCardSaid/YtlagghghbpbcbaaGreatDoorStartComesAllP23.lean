import Derived.Test.YtlagghghbpbcbaaGreatDoorRows
import Derived.Test.YtlagghghbpbcbaaGreatDoorStartComesAllP8
import Derived.Test.YtlagghghbpbcbaaGreatDoorStartComesAllP1
/- The document's At (package sundialref10), alone: a word of a list. -/
namespace Go.Proofs.YtlagghghbpbcbaaGreatDoor.AtRef
set_option maxRecDepth 20000
open Go.ChangeShapes Go.WideShapes Go.RowKit CM Lay Ints
set_option linter.unusedVariables false

theorem At_all {A : Option Addr} {l : List Int} {n : Nat} (c : Nat) {w : World} (hn : n = l.length) (hl : n ≤ 9223372036854775807) (hR : Row w w.heap.size A (flat (encZ .u64) l)) (i : Int) : Calls Tryz.prog 51 #[.slice A n c, .int .i64 i] w fun e w' => e = .returned (.int .u64 (getI l i)) ∧ w = w' := by
  by_cases hi : there l i
  · obtain ⟨j, rfl, hj⟩ := there_nat hi
    obtain ⟨b, o, rfl, _, hc⟩ := int_at hR hj
    have hx := List.getElem?_eq_getElem hj
    have c0 := hc j _ hx
    rw [← getI_some hx] at c0
    have hjn : j < n := by omega
    generalize getI l (j : Int) = x at c0 ⊢
    have h0 : ¬ (j : Int) < 0 := by omega
    clear hc hx hj hi hR hn
    go_enter Tryz.func51, Tryz.ntmps51
    go_wp2
    go_ret
    exact ⟨rfl, rfl⟩
  · rw [getI_out hi]
    unfold there at hi
    rw [← hn] at hi
    by_cases h0 : i < 0
    · clear hi hR hn
      go_enter Tryz.func51, Tryz.ntmps51
      go_wp2
      go_ret
      exact ⟨rfl, rfl⟩
    · have h1 : (n : Int) ≤ i := by omega
      clear hi hR hn
      go_enter Tryz.func51, Tryz.ntmps51
      go_wp2
      go_ret
      exact ⟨rfl, rfl⟩
theorem At_any {A : Option Addr} {l : List Int} {n : Nat} (c : Nat) {w : World} (hn : n = l.length) (hl : n ≤ 1000000) (hR : Row w w.heap.size A (flat (encZ .u64) l)) (i : Int) : Calls Tryz.prog 51 #[.slice A n c, .int .i64 i] w fun e w' => e = .returned (.int .u64 (getI l i)) ∧ w = w' := At_all c hn (by omega) hR i
end Go.Proofs.YtlagghghbpbcbaaGreatDoor.AtRef

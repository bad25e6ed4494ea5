import Derived.Test.YtlagghghbpbcbaaGreatDoorRows
import Derived.Test.YtlagghghbpbcbaaGreatDoorStartComesAllP7
import Derived.Test.YtlagghghbpbcbaaGreatDoorStartComesAllP1
/- The document's Less (package sundialref03), alone. -/
namespace Go.Proofs.YtlagghghbpbcbaaGreatDoor.LessRef
set_option maxRecDepth 20000
open Go.ChangeShapes Go.WideShapes Go.RowKit OM Lay

theorem Less_any (x y : Key) (w : World) : Calls Tryz.prog 67 #[.agg #[.int .i64 x.1, .int .u64 x.2], .agg #[.int .i64 y.1, .int .u64 y.2]] w fun e w' => e = .returned (.bool (ltK x y)) ∧ Below w.heap.size w w' := by
  obtain ⟨a, b⟩ := x
  obtain ⟨c, d⟩ := y
  have hB : Below w.heap.size w ((w.alloc (.cells #[.int .i64 a, .int .u64 b] 58)).alloc (.cells #[.int .i64 c, .int .u64 d] 58)) := ((Below.refl _ _).alloc (Nat.le_refl _) _).alloc (by simp) _
  by_cases h1 : a < c
  · have e : ltK (a, b) (c, d) = true := by rw [ltK_iff]; exact .inl h1
    rw [e]
    clear e
    go_enter Tryz.func67, Tryz.ntmps67
    go_wp2
    go_ret
    exact ⟨rfl, hB⟩
  · by_cases h2 : a = c
    · subst h2
      by_cases h3 : b < d
      · have e : ltK (a, b) (a, d) = true := by rw [ltK_iff]; exact .inr ⟨rfl, h3⟩
        rw [e]
        clear e
        go_enter Tryz.func67, Tryz.ntmps67
        go_wp2
        go_ret
        exact ⟨rfl, hB⟩
      · have e : ltK (a, b) (a, d) = false := by
          cases g : ltK (a, b) (a, d)
          · rfl
          · rw [ltK_iff] at g; simp only at g; omega
        rw [e]
        clear e
        go_enter Tryz.func67, Tryz.ntmps67
        go_wp2
        go_ret
        exact ⟨rfl, hB⟩
    · have e : ltK (a, b) (c, d) = false := by
        cases g : ltK (a, b) (c, d)
        · rfl
        · rw [ltK_iff] at g; simp only at g; omega
      have h2' : (a == c) = false := by simpa using h2
      rw [e]
      clear e
      go_enter Tryz.func67, Tryz.ntmps67
      go_wp2
      go_ret
      exact ⟨rfl, hB⟩
end Go.Proofs.YtlagghghbpbcbaaGreatDoor.LessRef
